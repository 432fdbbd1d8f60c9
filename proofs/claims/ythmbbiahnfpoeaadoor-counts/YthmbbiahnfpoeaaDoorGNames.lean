import Derived.Test.YthmbbiahnfpoeaaDoorFertile
import Derived.WalkKit
import Derived.WalkSpells
import Derived.WalkSmall
import Derived.BigQuiet
import Derived.Deep.QuietTactic
import Derived.Deep.RegionWith
import Derived.Deep.LoopGhost
import Derived.Deep.RegionHeld3
import Derived.Deep.DeepCutAuto
import Derived.Maps.OwnSet
import Derived.Maps.OwnOps
namespace Go.Proofs.YthmbbiahnfpoeaaDoor
open Go.RowKit Go.Maps

theorem signPlace_at (a : Nat) (t : ByteArray) (p k : Nat) (w : World) (hp : p ≤ 50) (hk : k ≤ 50) :
    Calls Tryd.prog 60 #[.agg #[.int .u8 a, .string t, .int .i64 p], .int .i64 k] w fun e w' => e = .returned (.int .i64 ↑(p + 2 + k)) ∧ w' = w.alloc (.cells #[.int .u8 a, .string t, .int .i64 p] 115) := by
  go_enter Tryd.func60, Tryd.ntmps60
  go_wp2
  go_ret
  exact ⟨ret_int (by omega), rfl⟩
/-- What is told of a place, if there is one. -/
def badV (kd : ByteArray) (X : Value) (o : Option Nat) : Value := match o with | some p => inV kd (atV p X) | none => .nilIface
theorem rdr_below {w w' : World} {b : Nat} {T : TypeId} {kd s : ByteArray} {k : Nat} (h : Rdr w b T kd s k) (hb : Below w.heap.size w w') : Rdr w' b T kd s k := h.grown (below_grown hb none) (by simp)

set_option maxRecDepth 100000 in
set_option maxHeartbeats 2000000 in
theorem gnames_any (b q g cap B : Nat) (kd s : ByteArray) (k0 : Nat) (U : TypeId) (x : Addr) (R : List (Nat × Nat)) (w : World) (hr : Rdr w b 78 kd s k0) (h : GrAt w q g cap B s R (Pu.dist s R [])) (hT : w.cell? ⟨2, 0, none⟩ = some (.iface U (.pointer (some x))))
    (hG : Pu.Good s R) (hn : R.length ≤ 8) (hs : s.size ≤ 50) :
    Calls Tryd.prog 37 #[.pointer (some ⟨b, 0, none⟩), .pointer (some ⟨q, 0, none⟩)] w fun e w' => Below w.heap.size w w' ∧
      e = .returned (badV kd (.iface U (.pointer (some x))) (Pu.bad s R R)) := by
  have HFT : Hid (∀ V, Below w.heap.size w V → Rdr V b 78 kd s k0 ∧ GrAt V q g cap B s R (Pu.dist s R []) ∧ V.cell? ⟨2, 0, none⟩ = some (.iface U (.pointer (some x)))) := fun V hb =>
    ⟨rdr_below hr hb, h.grown (below_grown hb none) (by simp) (by simp) (by simp), (below_grown hb none).cell hT (by simp)⟩
  have HLS : Aside (∀ c, c ∈ Pu.dist s R [] ↔ Pu.has s R c = true) := fun c => by
    have := (Pu.dist_spec s R [] List.nodup_nil).2.1 c
    simpa using this
  have c0 := h.c0
  clear hr h hT
  generalize Pu.dist s R [] = L at *
  go_enter Tryd.func37, Tryd.ntmps37
  go_wp2_with fail
  clear c0
  go_loopg [15] R.length (fun n iv wr => ∃ k : Nat, iv = .int .i64 k ∧ k ≤ R.length ∧ n = R.length - k ∧ Below w.heap.size w wr ∧ Pu.bad s R R = Pu.bad s R (R.drop k))
  case atStart => exact ⟨0, rfl, Nat.zero_le _, rfl, Below.refl _ _, rfl⟩
  case round =>
    obtain ⟨k, rfl, hk, rfl, hbw, hba⟩ := hrel
    have HA := aside_of hba
    clear hba
    by_cases hkl : k < R.length
    · obtain ⟨hrV, hGV, hTV⟩ := HFT.out wr hbw
      obtain ⟨h65, h90, hr1, hr2⟩ := hG R[k] (List.getElem_mem hkl)
      obtain ⟨hc0, hc1, hc2⟩ := hGV.rules k hkl
      have HD := aside_of (bad_drop (s := s) hkl)
      have hsz := size_sub (s := s) (a := R[k].1 + 2) hr2
      have hbt : ∀ j, j < R[k].2 - (R[k].1 + 2) → Pu.byt (sub s (R[k].1 + 2) R[k].2) j = Pu.byt s (R[k].1 + 2 + j) := fun j h => byt_sub hr2 h
      generalize R[k] = r at *
      obtain ⟨p, p2⟩ := r
      simp only at hc0 hc1 hc2 HD hsz hbt hr1 hr2
      generalize sub s (p + 2) p2 = t at *
      generalize Pu.byt s p = c at *
      obtain ⟨n, hnn⟩ : ∃ n, n = p2 - (p + 2) := ⟨_, rfl⟩
      rw [← hnn] at hsz hbt HD
      have hn50 : n ≤ 50 := by omega
      have hr50 : p + 2 + n ≤ 50 := by omega
      have HBT := aside_of hbt
      clear h65 h90 hr1 hr2 hnn hbt hrV hGV hTV
      go_wp2_with fail
      obtain ⟨rb, hrb⟩ : ∃ rb, rb = wr.heap.size := ⟨_, rfl⟩
      have k1 : (wr.alloc (.cells #[.int .u8 c, .string t, .int .i64 p] 115)).heap[rb]? = some (.cells #[.int .u8 c, .string t, .int .i64 p] 115 (0, 0)) := by rw [hrb]; exact heap_alloc_new wr _
      have hbw2 : Below w.heap.size w (wr.alloc (.cells #[.int .u8 c, .string t, .int .i64 p] 115)) := hbw.alloc hbw.size _
      rw [← hrb]
      generalize wr.alloc (.cells #[.int .u8 c, .string t, .int .i64 p] 115) = W at *
      clear hc0 hc1 hc2 hbw hrb
      go_loopg [22] n (fun m jv V => ∃ j : Nat, jv = .int .i64 j ∧ j ≤ n ∧ m = n - j ∧ V.heap[rb]? = some (.cells #[.int .u8 c, .string t, .int .i64 p] 115 (0, 0)) ∧ Below w.heap.size w V ∧ Pu.badIn s R n (p + 2) = Pu.badIn s R (n - j) (p + 2 + j))
      case atStart => exact ⟨0, rfl, Nat.zero_le _, rfl, k1, hbw2, rfl⟩
      case round =>
        clear k1 hbw2
        obtain ⟨j, rfl, hj, rfl, hblk, hbV, hbj⟩ := hrel
        have HJ := aside_of hbj
        clear hbj
        by_cases hjl : j < n
        · obtain ⟨hrV, hGV, hTV⟩ := HFT.out wr hbV
          have hjt : j < t.size := by rw [hsz]; exact hjl
          have hby : t[j].toNat = Pu.byt s (p + 2 + j) := by rw [Pu.byt_eq hjt]; exact HBT.out j hjl
          have HN := aside_of (badIn_succ s R (n - (j + 1)) (p + 2 + j))
          rw [show n - (j + 1) + 1 = n - j by omega, ← hby] at HN
          have h256 : t[j].toNat < 256 := UInt8.toNat_lt _
          have hlk := fun m => (hGV.drewN m).nums.look_ok h256
          have q1 := hGV.c1
          have t0 : wr.cell? ⟨rb, 0, none⟩ = some (.int .u8 c) := by simp [World.cell?, hblk]
          have t1 : wr.cell? ⟨rb, 1, none⟩ = some (.string t) := by simp [World.cell?, hblk]
          have t2 : wr.cell? ⟨rb, 2, none⟩ = some (.int .i64 p) := by simp [World.cell?, hblk]
          have b1 : (0 : Int) ≤ (j : Int) := by omega
          have b2 : (j : Int) < (t.size : Int) := by omega
          have gN := fun w => gName_any t[j].toNat w
          have HL := (HLS.out t[j].toNat)
          clear hby
          by_cases hcL : t[j].toNat ∈ L
          · have HX : Aside (Pu.badIn s R n (p + 2) = Pu.badIn s R (n - (j + 1)) (p + 2 + (j + 1))) := by
              show _ = _
              rw [HJ.out, HN.out, if_neg (fun h => by rw [HL.1 hcL] at h; exact absurd h.2 (by decide))]; rfl
            simp only [hcL, if_true, decide_true] at hlk
            clear HJ HN HL HD gN hGV
            go_wp2_with fail
            go_quiet (fail)
            go_wp2_with fail
            go_roundg (n - (j + 1))
            case measure => omega
            case rel => exact ⟨j + 1, by go_num, by omega, rfl, hblk, Go.below_drewN hbV _, HX.out⟩
          · have hnh : Pu.has s R t[j].toNat = false := by
              cases hh : Pu.has s R t[j].toNat with
              | false => rfl
              | true => exact absurd (HL.2 hh) hcL
            simp only [hcL, if_false, decide_false] at hlk
            by_cases hnm : Pu.nm t[j].toNat = true
            · have HX : Aside (Pu.bad s R R = some (p + 2 + j)) := by
                show _ = _
                rw [HA.out, HD.out, HJ.out, HN.out, if_pos ⟨hnm, hnh⟩]
              rw [hnm] at gN
              have GN := hide gN
              clear HJ HN HL HD HA gN hGV hnh hcL hnm
              have hrl := hrV.lt
              have htl := World.block_lt_of_cell? wr _ hTV
              have hrbl : rb < wr.heap.size := (Array.getElem?_eq_some_iff.1 hblk).1
              have hj50 : j ≤ 50 := by omega
              have hp50 : p ≤ 50 := by omega
              go_wp2_with fail
              go_quiet (fail)
              go_wp2_with (go_at_call 59; refine (GN.out _).mono ?_; rintro e w5 ⟨rfl, rfl⟩)
              go_region_held3 (fun w' => w'.cell? ⟨rb, 0, none⟩ = some (.int .u8 c) ∧ w'.cell? ⟨rb, 1, none⟩ = some (.string t) ∧ w'.cell? ⟨rb, 2, none⟩ = some (.int .i64 p) ∧ w'.cell? ⟨2, 0, none⟩ = some (.iface U (.pointer (some x)))) (go_keep)
                (first
                  | (go_at_call 60; refine (signPlace_at c t p j _ hp50 hj50).mono ?_; rintro e w6 ⟨rfl, rfl⟩)
                  | (go_at_call 58; refine (wrong_any b 78 kd s k0 (p + 2 + j) U x _ ?_).mono ?_; exact (rdr_below hrV (((Go.below_drewN (Below.refl _ _) _).drew).alloc (by simp) _)); rintro e w7 ⟨rfl, rfl⟩))
              all_goals
                go_wp2_with fail
                go_ret
                exact ⟨by first | exact ((Go.below_drewN hbV _).drew).alloc (by have := hbV.size; simp; omega) _ | exact ((Go.below_drewN hbV _).alloc (by have := hbV.size; simp; omega) _).drew, by rw [HX.out]; rfl⟩
            · have hn0 : Pu.nm t[j].toNat = false := by simpa using hnm
              have HX : Aside (Pu.badIn s R n (p + 2) = Pu.badIn s R (n - (j + 1)) (p + 2 + (j + 1))) := by
                show _ = _
                rw [HJ.out, HN.out, if_neg (fun h => hnm h.1)]; rfl
              rw [hn0] at gN
              have GN := hide gN
              clear HJ HN HL HD gN hGV hnh hcL hnm hn0
              go_wp2_with fail
              go_quiet (fail)
              go_wp2_with (go_at_call 59; refine (GN.out _).mono ?_; rintro e w5 ⟨rfl, rfl⟩)
              go_roundg (n - (j + 1))
              case measure => omega
              case rel => exact ⟨j + 1, by go_num, by omega, rfl, hblk, Go.below_drewN hbV _, HX.out⟩
        · have HX : Aside (Pu.bad s R R = Pu.bad s R (R.drop (k + 1))) := by
            show _ = _
            rw [HA.out, HD.out, HJ.out, show n - j = 0 by omega]; rfl
          clear HJ HD HA
          go_wp2_with fail
          go_roundg (R.length - (k + 1))
          case measure => omega
          case rel => exact ⟨k + 1, by go_num, by omega, rfl, hbV, HX.out⟩
    · have HX : Aside (Pu.bad s R R = none) := by
        show _ = _
        rw [HA.out, List.drop_eq_nil_of_le (by omega)]; rfl
      clear HA
      go_wp2_with fail
      go_ret
      exact ⟨hbw, by rw [HX.out]; rfl⟩
end Go.Proofs.YthmbbiahnfpoeaaDoor
