import Derived.Test.YthmbbiahnfpoeaaDoorCheck
import Derived.Test.YthmbbiahnfpoeaaDoorRefTrees
import Derived.WalkKit
import Derived.WalkSpells
import Derived.WalkSmall
import Derived.BigQuiet
import Derived.Deep.QuietTactic
import Derived.Deep.RegionWith
import Derived.Deep.LoopGhost
import Derived.Deep.RegionHeld3
import Derived.Deep.DeepCutAuto
namespace Go.Proofs.YthmbbiahnfpoeaaDoor
open Go.RowKit

theorem take_let (b : Nat) (T : TypeId) (kd s : ByteArray) (k : Nat) (r : Bool) (w : World) (hr : Hid (decide (k < s.size ∧ Pu.lt (Pu.byt s k) = true) = r)) (h : Rdr w b T kd s k) (hk : k ≤ s.size) (hs : s.size ≤ 50) :
    Calls Tryd.prog 56 #[.pointer (some ⟨b, 0, none⟩), .func (.func 70) #[] #[]] w fun e w' => e = .returned (.bool r) ∧ Rdr w' b T kd s (if r = true then k + 1 else k) ∧ w.grownBy w' (some b) := by
  have hr := hr.out
  by_cases hlt : k < s.size
  · by_cases hl : Pu.lt (Pu.byt s k) = true
    · obtain rfl : r = true := by rw [← hr]; simp [hlt, hl]
      exact take_letter_yes b T kd s k w h hlt hs hl
    · obtain rfl : r = false := by rw [← hr]; simp [hl]
      exact take_letter_no b T kd s k w h hlt (by simpa using hl)
  · obtain rfl : k = s.size := by omega
    obtain rfl : r = false := by rw [← hr]; simp
    exact take_end b T kd s _ w h

set_option maxHeartbeats 1000000 in
theorem run_letter (b : Nat) (T : TypeId) (kd s : ByteArray) (w : World) (h : Rdr w b T kd s 0) (hs : s.size ≤ 24) :
    Calls Tryd.prog 69 #[.pointer (some ⟨b, 0, none⟩), .int .i64 24, .func (.func 70) #[] #[]] w fun e w' => ∃ j, e = .returned (.string (sub s 0 j)) ∧ Rdr w' b T kd s j ∧ w.grownBy w' (some b) ∧ j ≤ s.size ∧ Pu.badL s s.size 0 = if j < s.size then some j else none := by
  have c2 := h.c2
  go_enter Tryd.func69, Tryd.ntmps69
  go_wp2_with fail
  clear c2
  go_loopg [12] 25 (fun n _ wr => ∃ j : Nat, j ≤ 24 ∧ n = 25 - j ∧ j ≤ s.size ∧ Rdr wr b T kd s j ∧ w.grownBy wr (some b) ∧ Pu.badL s s.size 0 = Pu.badL s (s.size - j) j)
  case atStart => exact ⟨0, by omega, rfl, Nat.zero_le _, h, World.grownBy.refl _ _, rfl⟩
  case round =>
    clear h
    obtain ⟨j, hj, rfl, hkj, hr, hg, hsg⟩ := hrel
    have HS := aside_of hsg
    clear hsg
    have c2 := hr.c2
    have c1 := hr.c1
    by_cases hgo : j < s.size ∧ Pu.lt (Pu.byt s j) = true
    · obtain ⟨hlt, hsg⟩ := hgo
      have HX : Aside (Pu.badL s s.size 0 = Pu.badL s (s.size - (j + 1)) (j + 1)) := by
        show _ = _
        rw [HS.out, show s.size - j = (s.size - (j + 1)) + 1 by omega, badL_step, if_pos hsg]
      have HT : Hid (decide (j < s.size ∧ Pu.lt (Pu.byt s j) = true) = true) := by show _ = _; simp [hlt, hsg]
      have j24 : (j : Int) < 24 := by omega
      clear HS hsg
      go_wp2_with (go_at_call 56; refine (take_let b T kd s j true _ HT hr hkj (by omega)).mono ?_; rintro e w1 ⟨rfl, hr1, hg1⟩)
      go_roundg (25 - (j + 1))
      case measure => omega
      case rel => exact ⟨j + 1, by omega, rfl, by omega, hr1, grown_trans hg hg1, HX.out⟩
    · have HX : Aside (Pu.badL s s.size 0 = if j < s.size then some j else none) := by
        show _ = _
        rw [HS.out]
        by_cases hlt : j < s.size
        · rw [if_pos hlt, show s.size - j = (s.size - (j + 1)) + 1 by omega, badL_step, if_neg (fun h => hgo ⟨hlt, h⟩)]
        · rw [if_neg hlt, show s.size - j = 0 by omega]; rfl
      clear HS
      have b1 : (0 : Int) ≤ (j : Int) := by omega
      have b3 : (j : Int) ≤ (s.size : Int) := by omega
      by_cases hj3 : j < 24
      · have HT : Hid (decide (j < s.size ∧ Pu.lt (Pu.byt s j) = true) = false) := by show _ = _; rw [decide_eq_false_iff_not]; exact hgo
        have j24 : (j : Int) < 24 := by omega
        clear hgo
        go_wp2_with (go_at_call 56; refine (take_let b T kd s j false _ HT hr hkj (by omega)).mono ?_; rintro e w1 ⟨rfl, hr1, hg1⟩)
        have hr2 : Rdr w1 b T kd s j := hr1
        have c1' := hr2.c1
        have c2' := hr2.c2
        clear hr1 c1 c2 hr
        go_quiet (fail)
        go_wp2
        go_ret
        exact ⟨j, by simp [sub], hr2.drewN _, grown_trans hg (grown_trans hg1 (grown_drewN _ _ _)), hkj, HX.out⟩
      · obtain rfl : j = 24 := by omega
        clear hgo
        go_wp2_with fail
        go_quiet (fail)
        go_wp2
        go_ret
        exact ⟨24, by simp [sub], hr.drewN _, grown_trans hg (grown_drewN _ _ _), hkj, HX.out⟩

/-- "word". -/
def kdW : ByteArray := ⟨#[119, 111, 114, 100]⟩
/-- The error of a word. -/
def errW (kd : ByteArray) (x0 x4 : Addr) (a p : Nat) : Value := if a = 0 then .nilIface else if a = 1 then inV kd (sent x0) else inV kd (atV p (sent x4))

set_option maxRecDepth 100000 in
set_option maxHeartbeats 2000000 in
theorem ReadWord_any (v : ByteArray) (x0 x1 x2 x3 x4 : Addr) (w : World) (hX : Laid w x0 x1 x2 x3 x4) :
    Calls Tryd.prog 42 #[.string v] w fun e w' => Below w.heap.size w w' ∧ ∃ (a p : Nat) (x : ByteArray), Pu.Wrd v a p ∧ e = .returned (.tuple #[.string x, errW kdW x0 x4 a p]) ∧ (a = 0 → x = v ∧ v.size ≤ 24) := by
  have hr : Rdr (w.alloc (.cells #[.string kdW, .string v, .int .i64 0] 140)) w.heap.size 140 kdW v 0 := heap_alloc_new w _
  have hB1 : Below w.heap.size w (w.alloc (.cells #[.string kdW, .string v, .int .i64 0] 140)) := (Below.refl _ _).alloc (Nat.le_refl _) _
  have hl4 : 4 < w.heap.size := World.block_lt_of_cell? w _ hX.c4
  by_cases hs : v.size ≤ 24
  · have HC : Aside (∀ a p, (match Pu.badL v v.size 0 with | some k => a = 5 ∧ p = k | none => a = 0 ∧ p = 0) → Pu.Wrd v a p) := by
      intro a p h
      unfold Pu.Wrd; rw [if_neg (by omega)]; exact h
    have HRU := hide (run_letter w.heap.size 140 kdW v _ hr hs)
    have HX4 : Hid (∀ V, Below w.heap.size w V → V.cell? ⟨4, 0, none⟩ = some (.iface 165 (.pointer (some x4)))) := fun V hb => (below_grown hb none).cell hX.c4 (by simp)
    clear hX
    unfold kdW at hr HRU hB1
    go_enter Tryd.func42, Tryd.ntmps42
    go_wp2_with (first
      | (go_at_call 34; refine (within_yes w.heap.size 140 _ v 0 24 _ hr hs).mono ?_; rintro e w1 ⟨rfl, rfl⟩)
      | (go_at_call 69; refine HRU.out.mono ?_; rintro e w2 ⟨j, rfl, hr2, hg2, hj, hbl⟩))
    have hb2 := grown_below hg2
    by_cases hlt : j < v.size
    · have HE : Hid ((j == v.size) = false) := by show _ = _; rw [beq_eq_false_iff_ne]; omega
      have HW : Aside (Pu.Wrd v 5 j) := HC.out 5 j (by rw [hbl, if_pos hlt]; exact ⟨rfl, rfl⟩)
      clear hbl HC HRU
      refine (ended_at w.heap.size 140 _ v j false _ HE hr2).mono ?_
      rintro e w3 ⟨rfl, nq, rfl⟩
      have hb3 := Go.below_drewN hb2 nq
      have hr3 := hr2.drewN nq
      have hx := HX4.out _ hb3
      generalize w2.drewN nq = w3 at *
      have c2 := hr3.c2
      go_wp2_with (go_at_call 58; refine (wrong_any w.heap.size 140 _ v j j 165 x4 _ hr3).mono ?_; rintro e w4 ⟨rfl, rfl⟩; dsimp only [inV, atV])
      go_ret2
      exact ⟨hb3, 5, j, _, HW.out, rfl, fun h => by cases h⟩
    · obtain rfl : j = v.size := by omega
      have HE : Hid ((v.size == v.size) = true) := beq_self_eq_true _
      have HW : Aside (Pu.Wrd v 0 0) := HC.out 0 0 (by rw [hbl, if_neg hlt]; exact ⟨rfl, rfl⟩)
      clear hbl HC HRU
      refine (ended_at w.heap.size 140 _ v v.size true _ HE hr2).mono ?_
      rintro e w3 ⟨rfl, nq, rfl⟩
      go_wp2_with fail
      go_ret2
      exact ⟨Go.below_drewN hb2 nq, 0, 0, _, HW.out, rfl, fun _ => ⟨by apply ByteArray.ext; simp [sub], hs⟩⟩
  · have hc0 : (w.alloc (.cells #[.string kdW, .string v, .int .i64 0] 140)).cell? ⟨0, 0, none⟩ = some (.iface 165 (.pointer (some x0))) := by rw [World.cell?_alloc_lt _ _ _ (World.block_lt_of_cell? w _ hX.c0)]; exact hX.c0
    have HC : Aside (Pu.Wrd v 1 0) := by show Pu.Wrd _ _ _; unfold Pu.Wrd; rw [if_pos (by omega)]; exact ⟨rfl, rfl⟩
    clear hX
    unfold kdW at hr hc0 hB1
    go_enter Tryd.func42, Tryd.ntmps42
    go_wp2_with (go_at_call 34; refine (within_no w.heap.size 140 kdW v 0 24 _ hr (by omega) 165 x0 hc0).mono ?_; rintro e w1 ⟨rfl, nq, rfl⟩; dsimp only [inV])
    go_ret2
    exact ⟨Go.below_drewN hB1 _, 1, 0, _, HC.out, rfl, fun h => by cases h⟩
end Go.Proofs.YthmbbiahnfpoeaaDoor
