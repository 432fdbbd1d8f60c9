import Derived.Test.YthmbbiahnfpoeaaDoorFertile
import Derived.WalkKit
import Derived.WalkSpells
import Derived.WalkSmall
import Derived.BigQuiet
import Derived.Deep.QuietTactic
import Derived.Deep.RegionWith
import Derived.Deep.LoopGhost
import Derived.Deep.RegionHeld3
import Derived.Deep.DeepCutAuto
import Derived.Maps.OwnSet
import Derived.Maps.OwnOps
namespace Go.Proofs.YthmbbiahnfpoeaaDoor
open Go.RowKit Go.Maps

theorem unhideB {p : Prop} (h : Hid p) : p := h
theorem Rdr.below {w w' : World} {b : Nat} {T : TypeId} {kd s : ByteArray} {k : Nat} (h : Rdr w b T kd s k) (hb : Below w.heap.size w w') : Rdr w' b T kd s k := h.grown (below_grown hb none) (by simp)

set_option maxRecDepth 100000 in
set_option maxHeartbeats 2000000 in
theorem barren_any (b q g cap B : Nat) (kd s : ByteArray) (k0 : Nat) (U : TypeId) (x : Addr) (R : List (Nat × Nat)) (w : World) (hr : Rdr w b 78 kd s k0) (h : GrAt w q g cap B s R (Pu.dist s R [])) (hT : w.cell? ⟨3, 0, none⟩ = some (.iface U (.pointer (some x))))
    (hG : Pu.Good s R) (hC : Pu.Closed s R) (hn : R.length ≤ 8) (hs : s.size ≤ 50) (hgw : g < w.heap.size) (hBw : B < w.heap.size) :
    Calls Tryd.prog 38 #[.pointer (some ⟨b, 0, none⟩), .pointer (some ⟨q, 0, none⟩)] w fun e w' => Below w.heap.size w w' ∧ ∃ F, Pu.Still s R F ∧
      match Pu.barren s F R with | some p => e = .returned (inV kd (atV p (.iface U (.pointer (some x))))) | none => e = .returned .nilIface := by
  have hll := names_len s R
  have HFT : Hid (∀ V, Below w.heap.size w V → Rdr V b 78 kd s k0 ∧ GrAt V q g cap B s R (Pu.dist s R []) ∧ V.cell? ⟨3, 0, none⟩ = some (.iface U (.pointer (some x)))) := fun V hb =>
    ⟨hr.below hb, h.grown (below_grown hb none) (by simp) (by simp) (by simp), (below_grown hb none).cell hT (by simp)⟩
  go_enter Tryd.func38, Tryd.ntmps38
  go_wp2_with (go_at_call 61; refine (fertile_any q g cap B s R _ h hG hC hn hs hgw hBw).mono ?_; rintro e w1 ⟨hb1, gs, F, rfl, hgs, hS, hST⟩; have c0 := ((unhideB HFT) w1 hb1).2.1.c0)
  have HST := aside_of hST
  clear hr h hT hST
  generalize hLL : Pu.dist s R [] = L at *
  have hgsl : gs < w1.heap.size := by obtain ⟨cs, hh, _⟩ := hS; exact (Array.getElem?_eq_some_iff.1 hh).1
  go_loopg [15] R.length (fun n iv wr => ∃ k : Nat, iv = .int .i64 k ∧ k ≤ R.length ∧ n = R.length - k ∧ Below w1.heap.size w1 wr ∧ Pu.barren s F R = Pu.barren s F (R.drop k))
  case atStart => exact ⟨0, rfl, Nat.zero_le _, rfl, Below.refl _ _, rfl⟩
  case round =>
    obtain ⟨k, rfl, hk, rfl, hbr, hba⟩ := hrel
    have HA := aside_of hba
    have hbw := hb1.trans (hbr.mono hb1.size)
    obtain ⟨hrV, hGV, hTV⟩ := HFT.out wr hbw
    have hSV := hS.grown (below_grown hbr none) (by simp)
    clear hba c0
    by_cases hkl : k < R.length
    · obtain ⟨h65, h90, hr1, hr2⟩ := hG R[k] (List.getElem_mem hkl)
      obtain ⟨hc0, hc1, hc2⟩ := hGV.rules k hkl
      have hcL : Pu.byt s R[k].1 ∈ L := by rw [← hLL]; exact mem_names (Pu.has_of (List.getElem_mem hkl))
      have h256 := Pu.byt_lt s R[k].1
      have HD := aside_of (barren_drop (s := s) (F := F) hkl)
      have HLL := aside_of hLL
      clear hLL
      generalize R[k] = r at *
      obtain ⟨p, p2⟩ := r
      simp only at hc0 hc1 hc2 hcL h256 HD
      generalize sub s (p + 2) p2 = t at *
      have hix := idx_lt hcL
      have NB := hide (fun (o : Obj) => Number_any q g cap B s R L (Pu.byt s p) (wr.alloc o) (hGV.alloc o) h256 hcL)
      have hcell := hSV.at hcL
      have hgl := hgsl
      have hzz := hbr.size
      have hcell' := fun o => World.cell?_alloc_lt wr o ⟨gs, L.idxOf (Pu.byt s p), none⟩ (by simp; omega)
      simp only [hcell] at hcell'
      generalize Pu.byt s p = c at *
      generalize L.idxOf c = ix at *
      have b3 : (0 : Int) ≤ (ix : Int) := by omega
      have b4 : (ix : Int) < (L.length : Int) := by omega
      by_cases hFc : F c = true
      · have HX : Aside (Pu.barren s F R = Pu.barren s F (R.drop (k + 1))) := by
          show _ = _
          rw [HA.out, HD.out, if_pos hFc]
        clear HA HD
        go_wp2_with (go_at_call 62; refine (NB.out _).mono ?_; rintro e w5 ⟨rfl, rfl⟩)
        go_roundg (R.length - (k + 1))
        case measure => omega
        case rel => exact ⟨k + 1, by go_num, by omega, rfl, hbr.alloc hbr.size _, HX.out⟩
      · have hFf : F c = false := by simpa using hFc
        have HX : Aside (Pu.barren s F R = some p) := by
          show _ = _
          rw [HA.out, HD.out, if_neg hFc]
        have hrA := fun o => hrV.grown (World.grownBy_alloc wr o none) (by simp)
        have hTA := fun o => World.cell?_alloc_lt wr o ⟨3, 0, none⟩ (World.block_lt_of_cell? wr _ hTV)
        simp only [hTV] at hTA
        clear HA HD hFc
        go_wp2_with (go_at_call 62; refine (NB.out _).mono ?_; rintro e w5 ⟨rfl, rfl⟩)
        go_quiet ((go_at_call 58; exact Calls.quiet_of_same (wrong_any b 78 kd s k0 p U x _ ((hrA _).drewN _))))
        go_wp2
        go_ret
        exact ⟨Go.below_drewN (hbw.alloc hbw.size _) _, F, HST.out, by rw [HX.out]; rfl⟩
    · have HX : Aside (Pu.barren s F R = none) := by
        show _ = _
        rw [HA.out, List.drop_eq_nil_of_le (by omega)]; rfl
      clear HA
      go_wp2_with fail
      go_ret
      exact ⟨hbw, F, HST.out, by rw [HX.out]; rfl⟩
end Go.Proofs.YthmbbiahnfpoeaaDoor
