import Derived.Test.YthmbbiahnfpoeaaDoorProg
import Derived.Test.YthmbbiahnfpoeaaDoorGRule
import Derived.WalkKit
import Derived.WalkSpells
import Derived.WalkSmall
import Derived.BigQuiet
import Derived.Deep.QuietTactic
import Derived.Deep.RegionWith
import Derived.Deep.LoopGhost
import Derived.Deep.RegionHeld3
import Derived.Deep.DeepCutAuto
namespace Go.Proofs.YthmbbiahnfpoeaaDoor
open Go.RowKit

theorem Tryd.info115 : (Tryd.prog.info? 115).map (fun i => (i.zero, i.size, i.bytes)) = some (some (.agg #[.int .u8 0, .string ⟨#[]⟩, .int .i64 0]), 3, 32) := by kernel_rfl
theorem owns_grown {w w' : World} {base b : Nat} {e : TypeId} {size : Nat} {v : Value} {n : Nat} {xs : List Value} (h : w.ownsRow base e size v n xs) (hg : w.grownBy w' (some b)) (hb : b < base) : w'.ownsRow base e size v n xs :=
  h.kept hg (by
    cases hv : v.ownBlock with
    | none => exact .inl rfl
    | some g => right; have := (h.lt g hv).1; simp; omega)
theorem grown_append {a w w' : World} {row : Option Nat} {b : Nat} (h : a.grownBy w (some b)) (hg : w.grownBy w' row) (hr : ∀ k, row = some k → a.heap.size ≤ k) : a.grownBy w' (some b) :=
  ⟨hg.os.trans h.os, hg.tape.trans h.tape, hg.output.trans h.output, Nat.le_trans h.size hg.size, fun i hi hn => (hg.block i (Nat.lt_of_lt_of_le hi h.size) (fun e => by have := hr i e.symm; omega)).trans (h.block i hi hn)⟩
theorem grown_alloc' {a w : World} {row : Option Nat} (h : a.grownBy w row) (o : Obj) : a.grownBy (w.alloc o) row := grown_trans h (World.grownBy_alloc w o row)

set_option maxRecDepth 100000 in
set_option maxHeartbeats 2000000 in
theorem rules_any (b : Nat) (kd s : ByteArray) (U : TypeId) (x : Addr) (w : World) (h : Rdr w b 78 kd s 0) (hs : s.size ≤ 50) (hT : w.cell? ⟨1, 0, none⟩ = some (.iface U (.pointer (some x)))) (hb : b ≠ 1) :
    Calls Tryd.prog 35 #[.pointer (some ⟨b, 0, none⟩)] w fun e w' => w.grownBy w' (some b) ∧ (∃ k, Rdr w' b 78 kd s k) ∧
      (((Pu.parse s 8 0).2.2 = false ∧ e = .returned (.tuple #[.slice none 0 0, inV kd (atV (Pu.parse s 8 0).2.1 (.iface U (.pointer (some x))))])) ∨
       ((Pu.parse s 8 0).2.2 = true ∧ ∃ v, e = .returned (.tuple #[v, .nilIface]) ∧ w'.ownsRow w.heap.size 115 3 v (Pu.parse s 8 0).1.length (rcells s (Pu.parse s 8 0).1))) := by
  obtain ⟨i0, hi, hz0, hz1, hz2⟩ := info_parts Tryd.info115
  have hlt := h.lt
  have hl1 := World.block_lt_of_cell? w _ hT
  have HT : ∀ w', w.grownBy w' (some b) → w'.cell? ⟨1, 0, none⟩ = some (.iface U (.pointer (some x))) := fun w' hg => hg.cell hT (by simp; omega)
  clear hT
  go_enter Tryd.func35, Tryd.ntmps35
  go_wp2_with fail
  go_loopg [4] 8 (fun n v wr => ∃ (acc : List (Nat × Nat)) (k i : Nat), acc.length + (k + 1) = 8 ∧ n = k + 1 ∧ i ≤ s.size ∧ Rdr wr b 78 kd s i ∧ wr.ownsRow w.heap.size 115 3 v acc.length (rcells s acc) ∧ w.grownBy wr (some b) ∧ Pu.parse s 8 0 = (acc ++ (Pu.parse s (k + 1) i).1, (Pu.parse s (k + 1) i).2))
  case atStart => exact ⟨[], 7, 0, rfl, by omega, by omega, h, World.ownsRow_nil _ _ _ _, World.grownBy.refl _ _, rfl⟩
  case round =>
    obtain ⟨acc, k, i, hlen, rfl, hi', hr, hown, hg, hpa⟩ := hrel
    have HP := aside_of hpa
    clear hpa h
    obtain ⟨j, q, hru⟩ : ∃ j q, Pu.ruleAt s i = (j, q) := ⟨_, _, rfl⟩
    have HR : Hid (Pu.ruleAt s i = (j, q)) := hru
    have hj := ruleAt_le hi'
    rw [hru] at hj
    obtain ⟨hj1, hj2⟩ : j ≤ s.size ∧ i ≤ j := hj
    cases q with
    | false =>
      have HF : Aside ((Pu.parse s 8 0).2 = (j, false)) := by
        show _ = _
        rw [HP.out]
        show (Pu.parse s (k + 1) i).2 = _
        rw [Pu.parse_fail (by rw [hru]), hru]
      clear hru HP hown
      have hTr := HT wr hg
      go_wp2_with (go_at_call 54; refine (grule_no b kd s i j U x _ HR hr hi' hs hTr hb).mono ?_; rintro e w1 ⟨rfl, hr1, hg1⟩; dsimp only [inV, atV])
      go_ret2
      refine ⟨grown_alloc' (grown_trans hg hg1) _, ⟨j, hr1.grown_alloc _⟩, .inl ?_⟩
      rw [HF.out]
      exact ⟨rfl, rfl⟩
    | true =>
      have hown1 : ∀ w1, wr.grownBy w1 (some b) → w1.ownsRow w.heap.size 115 3 u4 acc.length (rcells s acc) := fun w1 h => owns_grown hown h hlt
      have hsz := hg.size
      by_cases hend : j = s.size
      · have HF : Aside (Pu.parse s 8 0 = (acc ++ [(i, j)], j, true)) := by
          show _ = _
          rw [HP.out, Pu.parse_end (by rw [hru]) (by rw [hru]; exact hend), hru]
        have HE : Hid ((j == s.size) = true) := by show _ = _; rw [hend]; exact beq_self_eq_true _
        clear hru HP hown hend
        go_wp2_with (first
          | (go_at_call 54; refine (grule_yes b kd s i j _ HR hr hs).mono ?_; rintro e w1 ⟨rfl, hr1, hg1⟩; have hz1' := hg1.size)
          | (at_builtin; refine wpList_append_own _ rfl _ _ 80 rfl w.heap.size 115 i0 (.agg #[.int .u8 0, .string ⟨#[]⟩, .int .i64 0]) 3 32 Tryd.underlying80 hi hz0 hz1 hz2 rfl (by decide) u4 _ _ rfl (((hown1 _ hg1).alloc _).alloc _) ⟨w1.heap.size + 1, 0, none⟩ 1 1 [.int .u8 ↑(Pu.byt s i), .string (sub s (i + 2) j), .int .i64 i] rfl rfl (by simpa using cell_three_new (w1.alloc _) _ _ _ _) (fun x hx => by simp at hx; rcases hx with rfl | rfl | rfl <;> rfl) (by unfold maxLen; omega) (by omega) (by simp; omega) ?_; intro v' w3 hown' hgrow3 hnil3
             have hg3 : w.grownBy w3 (some b) := grown_append (grown_alloc' (grown_alloc' (grown_trans hg hg1) _) _) hgrow3 (fun k hk => ((hown1 _ hg1).lt k hk).1)
             have hr3 : Rdr w3 b 78 kd s j := ((hr1.grown_alloc _).grown_alloc _).grown hgrow3 (fun e => by have := ((hown1 _ hg1).lt b e.symm).1; omega)
             clear hgrow3 hnil3)
          | (go_at_call 55; refine (ended_at b 78 kd s j true _ HE hr3).mono ?_; rintro e w4 ⟨rfl, nq, rfl⟩))
        go_ret2
        refine ⟨grown_trans hg3 (grown_drewN _ _ _), ⟨j, hr3.drewN _⟩, .inr ?_⟩
        rw [HF.out]
        exact ⟨rfl, v', rfl, by rw [rcells_snoc, List.length_append]; exact hown'⟩
      · have HE : Hid ((j == s.size) = false) := by show _ = _; rw [beq_eq_false_iff_ne]; exact hend
        have hjl : j < s.size := by omega
        by_cases hgo : Pu.byt s j = 59 ∧ k ≠ 0
        · have HF : Aside (Pu.parse s 8 0 = ((acc ++ [(i, j)]) ++ (Pu.parse s k (j + 1)).1, (Pu.parse s k (j + 1)).2)) := by
            show _ = _
            rw [HP.out, Pu.parse_next (by rw [hru]) (by rw [hru]; exact hend) (by rw [hru]; exact hgo.1) hgo.2, hru]
            simp
          obtain ⟨k, rfl⟩ : ∃ k', k = k' + 1 := ⟨k - 1, by omega⟩
          have HT2 : Hid (decide (j < s.size ∧ (Pu.byt s j == 59) = true) = true) := by show _ = _; simp [hjl, hgo.1]
          have hl8 : ((((acc.length + 1 : Nat)) : Int) == 8) = false := by simp; omega
          have hl8' : ((acc.length : Int) + 1 == 8) = false := by simp; omega
          clear hru HP hown hend hgo
          go_wp2_with (first
            | (go_at_call 54; refine (grule_yes b kd s i j _ HR hr hs).mono ?_; rintro e w1 ⟨rfl, hr1, hg1⟩; have hz1' := hg1.size)
            | (at_builtin; refine wpList_append_own _ rfl _ _ 80 rfl w.heap.size 115 i0 (.agg #[.int .u8 0, .string ⟨#[]⟩, .int .i64 0]) 3 32 Tryd.underlying80 hi hz0 hz1 hz2 rfl (by decide) u4 _ _ rfl (((hown1 _ hg1).alloc _).alloc _) ⟨w1.heap.size + 1, 0, none⟩ 1 1 [.int .u8 ↑(Pu.byt s i), .string (sub s (i + 2) j), .int .i64 i] rfl rfl (by simpa using cell_three_new (w1.alloc _) _ _ _ _) (fun x hx => by simp at hx; rcases hx with rfl | rfl | rfl <;> rfl) (by unfold maxLen; omega) (by omega) (by simp; omega) ?_; intro v' w3 hown' hgrow3 hnil3
               have hg3 : w.grownBy w3 (some b) := grown_append (grown_alloc' (grown_alloc' (grown_trans hg hg1) _) _) hgrow3 (fun k hk => ((hown1 _ hg1).lt k hk).1)
               have hr3 : Rdr w3 b 78 kd s j := ((hr1.grown_alloc _).grown_alloc _).grown hgrow3 (fun e => by have := ((hown1 _ hg1).lt b e.symm).1; omega)
               clear hgrow3 hnil3)
            | (go_at_call 55; refine (ended_at b 78 kd s j false _ HE hr3).mono ?_; rintro e w4 ⟨rfl, nq, rfl⟩
               have hr4 : Rdr (w3.drewN nq) b 78 kd s j := hr3
               have hg4 : w.grownBy (w3.drewN nq) (some b) := grown_trans hg3 (grown_drewN _ _ _)
               have hown4 : (w3.drewN nq).ownsRow w.heap.size 115 3 v' (acc.length + 1) (rcells s acc ++ [.int .u8 ↑(Pu.byt s i), .string (sub s (i + 2) j), .int .i64 i]) := hown'
               obtain ⟨g, cap, rfl⟩ : ∃ g cap, v' = .slice g (acc.length + 1) cap := by
                 rcases hown'.2 with ⟨_, h0⟩ | ⟨g, cap, _, h0, _⟩
                 · omega
                 · exact ⟨_, _, h0⟩
               generalize w3.drewN nq = w5 at *
               clear hr3 hg3 hown' hr1 hg1))
          go_cut [34] (fun v wc => v = .bool false ∧ Rdr wc b 78 kd s (j + 1) ∧ w.grownBy wc (some b) ∧ wc.ownsRow w.heap.size 115 3 (.slice g (acc.length + 1) cap) (acc.length + 1) (rcells s acc ++ [.int .u8 ↑(Pu.byt s i), .string (sub s (i + 2) j), .int .i64 i]))
          case first =>
            first | (go_region_with (first
              | (go_at_call 57; refine (only59 _).mono ?_; rintro e w6 ⟨rfl, rfl⟩)
              | (go_at_call 56; refine (take_only b 78 kd s j 59 w5.heap.size true _ HT2 ?_ hj1 hs ?_).mono ?_; exact (hr4.grown_alloc _); exact (cell_new_one _ _ _); rintro e w7 ⟨rfl, hr7, hg7⟩))) | fail
            all_goals
              go_wp2_with fail
              go_meet
              case rel =>
                refine ⟨rfl, hr7, grown_trans (grown_alloc' hg4 (.cells #[.int .u8 59] 5)) (undrew hg7), owns_grown (hown4.alloc (.cells #[.int .u8 59] 5)) (undrew hg7) hlt⟩
          case rest =>
            obtain ⟨rfl, hr8, hg8, hown8⟩ := hcut
            go_wp2_with fail
            go_roundg (k + 1)
            case measure => omega
            case rel => exact ⟨acc ++ [(i, j)], k, j + 1, by simp; omega, rfl, by omega, hr8, by rw [rcells_snoc, List.length_append]; exact hown8, hg8, HF.out⟩
        · have HF : Aside ((Pu.parse s 8 0).2 = (j, false)) := by
            show _ = _
            rw [HP.out]
            show (Pu.parse s (k + 1) i).2 = _
            rw [Pu.parse_stop (by rw [hru]) (by rw [hru]; exact hend) (by rw [hru]; exact hgo), hru]
          have fin : ∀ (e : Ending) (w' : World), e = .returned (.tuple #[.slice none 0 0, inV kd (atV j (.iface U (.pointer (some x))))]) → w.grownBy w' (some b) → (∃ k, Rdr w' b 78 kd s k) → w.grownBy w' (some b) ∧ (∃ k, Rdr w' b 78 kd s k) ∧
      (((Pu.parse s 8 0).2.2 = false ∧ e = .returned (.tuple #[.slice none 0 0, inV kd (atV (Pu.parse s 8 0).2.1 (.iface U (.pointer (some x))))])) ∨
       ((Pu.parse s 8 0).2.2 = true ∧ ∃ v, e = .returned (.tuple #[v, .nilIface]) ∧ w'.ownsRow w.heap.size 115 3 v (Pu.parse s 8 0).1.length (rcells s (Pu.parse s 8 0).1))) := by
            intro e w' he hg hr
            refine ⟨hg, hr, .inl ?_⟩
            rw [HF.out]
            exact ⟨rfl, he⟩
          have FIN : Hid _ := fin
          by_cases hk0 : k = 0
          · have hl8 : ((((acc.length + 1 : Nat)) : Int) == 8) = true := by simp; omega
            have hl8' : ((acc.length : Int) + 1 == 8) = true := by simp; omega
            clear hru HP hown hend hgo fin hk0
            go_wp2_with (first
              | (go_at_call 54; refine (grule_yes b kd s i j _ HR hr hs).mono ?_; rintro e w1 ⟨rfl, hr1, hg1⟩; have hz1' := hg1.size)
              | (at_builtin; refine wpList_append_own _ rfl _ _ 80 rfl w.heap.size 115 i0 (.agg #[.int .u8 0, .string ⟨#[]⟩, .int .i64 0]) 3 32 Tryd.underlying80 hi hz0 hz1 hz2 rfl (by decide) u4 _ _ rfl (((hown1 _ hg1).alloc _).alloc _) ⟨w1.heap.size + 1, 0, none⟩ 1 1 [.int .u8 ↑(Pu.byt s i), .string (sub s (i + 2) j), .int .i64 i] rfl rfl (by simpa using cell_three_new (w1.alloc _) _ _ _ _) (fun x hx => by simp at hx; rcases hx with rfl | rfl | rfl <;> rfl) (by unfold maxLen; omega) (by omega) (by simp; omega) ?_; intro v' w3 hown' hgrow3 hnil3
                 have hg3 : w.grownBy w3 (some b) := grown_append (grown_alloc' (grown_alloc' (grown_trans hg hg1) _) _) hgrow3 (fun k hk => ((hown1 _ hg1).lt k hk).1)
                 have hr3 : Rdr w3 b 78 kd s j := ((hr1.grown_alloc _).grown_alloc _).grown hgrow3 (fun e => by have := ((hown1 _ hg1).lt b e.symm).1; omega)
                 clear hgrow3 hnil3)
              | (go_at_call 55; refine (ended_at b 78 kd s j false _ HE hr3).mono ?_; rintro e w4 ⟨rfl, nq, rfl⟩
                 have hr4 : Rdr (w3.drewN nq) b 78 kd s j := hr3
                 have hg4 : w.grownBy (w3.drewN nq) (some b) := grown_trans hg3 (grown_drewN _ _ _)
                 have hown4 : (w3.drewN nq).ownsRow w.heap.size 115 3 v' (acc.length + 1) (rcells s acc ++ [.int .u8 ↑(Pu.byt s i), .string (sub s (i + 2) j), .int .i64 i]) := hown'
                 obtain ⟨g, cap, rfl⟩ : ∃ g cap, v' = .slice g (acc.length + 1) cap := by
                   rcases hown'.2 with ⟨_, h0⟩ | ⟨g, cap, _, h0, _⟩
                   · omega
                   · exact ⟨_, _, h0⟩
                 generalize w3.drewN nq = w5 at *
                 clear hr3 hg3 hown' hr1 hg1))
            go_cut [34] (fun v wc => v = .bool true ∧ Rdr wc b 78 kd s j ∧ w.grownBy wc (some b) ∧ wc.ownsRow w.heap.size 115 3 (.slice g (acc.length + 1) cap) (acc.length + 1) (rcells s acc ++ [.int .u8 ↑(Pu.byt s i), .string (sub s (i + 2) j), .int .i64 i]))
            case first =>
              first | (go_region_with (fail)) | fail
              all_goals
                go_wp2_with fail
                go_meet
                case rel =>
                  exact ⟨rfl, hr4, drewG hg4, hown4⟩
            case rest =>
              obtain ⟨rfl, hr8, hg8, hown8⟩ := hcut
              have hT8 := HT _ hg8
              have c2 := hr8.c2
              go_wp2_with fail
              go_quiet ((go_at_call 58; exact Calls.quiet_of_same (wrong_any b 78 kd s j j U x _ (hr8.drewN _))))
              go_wp2
              go_ret2
              exact FIN.out _ _ rfl (grown_trans hg8 (grown_drewN _ _ _)) ⟨j, hr8.drewN _⟩
          · have HT2 : Hid (decide (j < s.size ∧ (Pu.byt s j == 59) = true) = false) := by
              show _ = _
              rw [decide_eq_false_iff_not]
              intro h
              exact hgo ⟨by simpa using h.2, hk0⟩
            have hl8 : ((((acc.length + 1 : Nat)) : Int) == 8) = false := by simp; omega
            have hl8' : ((acc.length : Int) + 1 == 8) = false := by simp; omega
            clear hru HP hown hend hgo fin hk0
            go_wp2_with (first
              | (go_at_call 54; refine (grule_yes b kd s i j _ HR hr hs).mono ?_; rintro e w1 ⟨rfl, hr1, hg1⟩; have hz1' := hg1.size)
              | (at_builtin; refine wpList_append_own _ rfl _ _ 80 rfl w.heap.size 115 i0 (.agg #[.int .u8 0, .string ⟨#[]⟩, .int .i64 0]) 3 32 Tryd.underlying80 hi hz0 hz1 hz2 rfl (by decide) u4 _ _ rfl (((hown1 _ hg1).alloc _).alloc _) ⟨w1.heap.size + 1, 0, none⟩ 1 1 [.int .u8 ↑(Pu.byt s i), .string (sub s (i + 2) j), .int .i64 i] rfl rfl (by simpa using cell_three_new (w1.alloc _) _ _ _ _) (fun x hx => by simp at hx; rcases hx with rfl | rfl | rfl <;> rfl) (by unfold maxLen; omega) (by omega) (by simp; omega) ?_; intro v' w3 hown' hgrow3 hnil3
                 have hg3 : w.grownBy w3 (some b) := grown_append (grown_alloc' (grown_alloc' (grown_trans hg hg1) _) _) hgrow3 (fun k hk => ((hown1 _ hg1).lt k hk).1)
                 have hr3 : Rdr w3 b 78 kd s j := ((hr1.grown_alloc _).grown_alloc _).grown hgrow3 (fun e => by have := ((hown1 _ hg1).lt b e.symm).1; omega)
                 clear hgrow3 hnil3)
              | (go_at_call 55; refine (ended_at b 78 kd s j false _ HE hr3).mono ?_; rintro e w4 ⟨rfl, nq, rfl⟩
                 have hr4 : Rdr (w3.drewN nq) b 78 kd s j := hr3
                 have hg4 : w.grownBy (w3.drewN nq) (some b) := grown_trans hg3 (grown_drewN _ _ _)
                 have hown4 : (w3.drewN nq).ownsRow w.heap.size 115 3 v' (acc.length + 1) (rcells s acc ++ [.int .u8 ↑(Pu.byt s i), .string (sub s (i + 2) j), .int .i64 i]) := hown'
                 obtain ⟨g, cap, rfl⟩ : ∃ g cap, v' = .slice g (acc.length + 1) cap := by
                   rcases hown'.2 with ⟨_, h0⟩ | ⟨g, cap, _, h0, _⟩
                   · omega
                   · exact ⟨_, _, h0⟩
                 generalize w3.drewN nq = w5 at *
                 clear hr3 hg3 hown' hr1 hg1))
            go_cut [34] (fun v wc => v = .bool true ∧ Rdr wc b 78 kd s j ∧ w.grownBy wc (some b) ∧ wc.ownsRow w.heap.size 115 3 (.slice g (acc.length + 1) cap) (acc.length + 1) (rcells s acc ++ [.int .u8 ↑(Pu.byt s i), .string (sub s (i + 2) j), .int .i64 i]))
            case first =>
              first | (go_region_with (first
                | (go_at_call 57; refine (only59 _).mono ?_; rintro e w6 ⟨rfl, rfl⟩)
                | (go_at_call 56; refine (take_only b 78 kd s j 59 w5.heap.size false _ HT2 ?_ hj1 hs ?_).mono ?_; exact (hr4.grown_alloc _); exact (cell_new_one _ _ _); rintro e w7 ⟨rfl, hr7, hg7⟩))) | fail
              all_goals
                go_wp2_with fail
                go_meet
                case rel =>
                  refine ⟨rfl, hr7, grown_trans (grown_alloc' hg4 (.cells #[.int .u8 59] 5)) (undrew hg7), owns_grown (hown4.alloc (.cells #[.int .u8 59] 5)) (undrew hg7) hlt⟩
            case rest =>
              obtain ⟨rfl, hr8, hg8, hown8⟩ := hcut
              have hT8 := HT _ hg8
              have c2 := hr8.c2
              go_wp2_with fail
              go_quiet ((go_at_call 58; exact Calls.quiet_of_same (wrong_any b 78 kd s j j U x _ (hr8.drewN _))))
              go_wp2
              go_ret2
              exact FIN.out _ _ rfl (grown_trans hg8 (grown_drewN _ _ _)) ⟨j, hr8.drewN _⟩
end Go.Proofs.YthmbbiahnfpoeaaDoor
