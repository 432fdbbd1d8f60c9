import Derived.Test.YthmbbiahnfpoeaaDoorRowsP
import Derived.Test.YthmbbiahnfpoeaaDoorRowRef
import Derived.WalkKit
import Derived.WalkSpells
import Derived.WalkSmall
import Derived.BigQuiet
import Derived.Deep.QuietTactic
import Derived.Deep.RegionWith
import Derived.Deep.LoopGhost
import Derived.Deep.RegionHeld3
import Derived.Deep.DeepCutAuto
namespace Go.Proofs.YthmbbiahnfpoeaaDoor
open Go.RowKit

namespace Pu
/-- One sign of a row that has a piece in just one way: where it ends. -/
structure Step (N M : Nat → Nat → Nat → Nat) (v t : ByteArray) (T : Nat → Nat → Nat → List UInt8) (k a i j q : Nat) : Prop where
  lo : i ≤ q
  hi : q ≤ j
  here : 0 < sgn N v (byt t a) i q ∧ ways N v t k (a + 1) q j = 1
  ahead : ∀ q', i ≤ q' → q' < q → sgn N v (byt t a) i q' = 0 ∨ ways N v t k (a + 1) q' j = 0
  lvl : 1 ≤ ways M v t k (a + 1) q j
  name : nm (byt t a) = true → N (byt t a) i q = 1 ∧ 1 ≤ M (byt t a) i q
  row : rowT N v t T (k + 1) a i j = (if nm (byt t a) = true then T (byt t a) i q else []) ++ rowT N v t T k (a + 1) q j
theorem exists_step {N M : Nat → Nat → Nat → Nat} {v t : ByteArray} (T : Nat → Nat → Nat → List UInt8) {n k a i j : Nat} (hMN : ∀ c i j, i ≤ j → j ≤ n → M c i j ≤ N c i j) (hj : j ≤ n) (hs : sg (byt t a) = true) (h1 : ways N v t (k + 1) a i j = 1) (h2 : 1 ≤ ways M v t (k + 1) a i j) : ∃ q, Step N M v t T k a i j q := by
  by_cases hl : lt (byt t a) = true
  · have e1 := way_letter hl (Nat.le_of_eq h1.symm)
    have e2 := way_letter hl h2
    have hn : ¬ nm (byt t a) = true := fun h => by rw [nm_not_lt h] at hl; cases hl
    refine ⟨i + 1, by omega, by omega, ⟨?_, by rw [← e1.2.2]; exact h1⟩, fun q' g1 g2 => .inl ?_, by rw [← e2.2.2]; exact h2, fun h => absurd h hn, ?_⟩
    · unfold sgn; rw [if_neg hn, if_pos ⟨rfl, e1.2.1⟩]; omega
    · unfold sgn; rw [if_neg hn, if_neg (by omega)]
    · rw [if_neg hn]
      simp only [rowT]
      rw [if_pos hl]; rfl
  · obtain ⟨q, hq⟩ := one_cut hl h1
    have hn : nm (byt t a) = true := by
      simp only [sg, Bool.or_eq_true] at hs
      exact hs.resolve_right hl
    have hxl := hq.lvl hl (fun c i' j' a1 a2 a3 => hMN c i' j' a2 (by omega)) h2
    have hrow := hq.row hl T
    obtain ⟨q1, q2, q3, q4, q5⟩ := hq
    have hsg : ∀ q', sgn N v (byt t a) i q' = N (byt t a) i q' := fun q' => by unfold sgn; rw [if_pos hn]
    refine ⟨q, q1, q2, ⟨by rw [hsg, q3]; omega, q4⟩, fun q' g1 g2 => ?_, hxl.2, fun _ => ⟨q3, hxl.1⟩, by rw [if_pos hn]; exact hrow⟩
    rw [hsg]
    exact Nat.mul_eq_zero.1 (q5 q' g1 (by omega) (by omega))
end Pu

set_option maxRecDepth 100000 in
set_option maxHeartbeats 2000000 in
theorem cut_any (pb top base q g cap B : Nat) (v s : ByteArray) (R : List (Nat × Nat)) (L : List Nat) (N : Nat → Nat → Nat → Nat) (hv : v.size ≤ 24) (hN : ∀ c i j, N c i j ≤ 2) (t : ByteArray) (m i j x : Nat) (w : World) (ht : t.size = m + 1) (hm : m + 1 ≤ 3) (hL : ∀ a, a < t.size → Pu.nm (Pu.byt t a) = true → Pu.byt t a ∈ L) (hij : i ≤ j) (hj : j ≤ v.size) (h : ProgAt w pb top base q g cap B v s R L N)
    (h1 : i ≤ x) (h2 : x ≤ j) (h3 : 0 < Pu.sgn N v (Pu.byt t 0) i x ∧ 0 < Pu.rowsP N v t m 1 x j) (h4 : ∀ y, i ≤ y → y < x → Pu.sgn N v (Pu.byt t 0) i y = 0 ∨ Pu.rowsP N v t m 1 y j = 0) :
    Calls Tryd.prog 82 #[.pointer (some ⟨pb, 0, none⟩), .string t, .int .i64 i, .int .i64 j] w fun e w' => e = .returned (.int .i64 ↑x) ∧ ∃ d, w' = w.drewN d := by
  have h0 : 0 < t.size := by omega
  have hby := Pu.byt_eq h0
  have tsz : (t.extract 1 t.size).size = m := by simp [ByteArray.size_extract]; omega
  have tsg : ∀ a, a < (t.extract 1 t.size).size → Pu.nm (Pu.byt (t.extract 1 t.size) a) = true → Pu.byt (t.extract 1 t.size) a ∈ L := fun a ha => by
    have := byt_sub (s := t) (a := 1) (b := t.size) (k := a) (Nat.le_refl _) (by rw [tsz] at ha; omega)
    rw [show Pu.byt (t.extract 1 t.size) a = Pu.byt t (1 + a) from this]
    exact hL _ (by rw [tsz] at ha; omega)
  have HI : Hid (∀ (i j : Nat) (w : World), i ≤ j → j ≤ v.size → ProgAt w pb top base q g cap B v s R L N → Calls Tryd.prog 73 #[.pointer (some ⟨pb, 0, none⟩), .string (t.extract 1 t.size), .int .i64 i, .int .i64 j] w fun e w' => e = .returned (.int .i64 ↑(Pu.rowsP N v t m 1 i j)) ∧ ∃ d, w' = w.drewN d) := by
    intro i j w h1 h2 h3
    have := rows_any pb top base q g cap B v s R L N hv hN m (t.extract 1 t.size) i j w tsz (by omega) tsg h1 h2 h3
    rwa [rowsP_tail ht] at this
  have HS : Hid (∀ (j : Nat) (w : World), i ≤ j → j ≤ v.size → ProgAt w pb top base q g cap B v s R L N → Calls Tryd.prog 45 #[.pointer (some ⟨pb, 0, none⟩), .int .u8 t[0].toNat, .int .i64 i, .int .i64 j] w fun e w' => e = .returned (.int .i64 ↑(Pu.sgn N v t[0].toNat i j)) ∧ ∃ d, w' = w.drewN d) := by
    intro j w h1 h2 h3
    exact sign_any pb top base q g cap B v s R L N t[0].toNat i j w hv h3 (UInt8.toNat_lt _) (by rw [hby]; exact hL 0 h0) h1 h2
  rw [← hby] at h3
  have H4 := hide h4
  rw [← hby] at H4
  have b3 : (0 : Int) < (t.size : Int) := by omega
  have b31 : (1 : Int) ≤ (t.size : Int) := by omega
  clear tsz tsg hL hby ht h4
  go_enter Tryd.func82, Tryd.ntmps82
  go_wp2_with fail
  go_loopg [9] (j + 1 - i) (fun n kv V => ∃ (k d : Nat), kv = .int .i64 k ∧ i ≤ k ∧ k ≤ x ∧ n = j + 1 - k ∧ V = w.drewN d)
  case atStart => exact ⟨i, 0, rfl, Nat.le_refl _, h1, rfl, rfl⟩
  case round =>
    obtain ⟨k, d, rfl, hik, hkx, rfl, rfl⟩ := hrel
    by_cases hkj : k < j
    · have b1 : (k : Int) < (j : Int) := by omega
      have HSk := hide (fun q' => HS.out k (w.drewN q') hik (by omega) (h.drewN q'))
      have HIk := hide (fun q' => HI.out k j (w.drewN q') (by omega) hj (h.drewN q'))
      by_cases hkx' : k = x
      · subst hkx'
        obtain ⟨p1, p2⟩ := h3
        clear HS HI H4
        generalize Pu.sgn N v t[0].toNat i k = y at *
        generalize Pu.rowsP N v t m 1 k j = z at *
        have e1 : (y : Int) > 0 := by omega
        have e2 : (z : Int) > 0 := by omega
        have e3 : (0 : Int) < (y : Int) := by omega
        have e4 : (0 : Int) < (z : Int) := by omega
        have e5 : decide ((y : Int) > 0) = true := by simpa using e1
        go_wp2_with (first | (go_at_call 45; refine (HSk.out _).mono ?_; rintro e w2 ⟨rfl, q2, rfl⟩) | (go_at_call 73; refine (HIk.out _).mono ?_; rintro e w3 ⟨rfl, q3, rfl⟩))
        go_ret
        exact ⟨rfl, _, rfl⟩
      · have hor := H4.out k hik (by omega)
        clear HS HI h3
        generalize Pu.sgn N v t[0].toNat i k = y at *
        generalize Pu.rowsP N v t m 1 k j = z at *
        by_cases hy : y = 0
        · subst hy
          clear hor
          go_wp2_with (first | (go_at_call 45; refine (HSk.out _).mono ?_; rintro e w2 ⟨rfl, q2, rfl⟩))
          go_roundg (j + 1 - (k + 1))
          case measure => omega
          case rel => exact ⟨k + 1, _, by go_num, by omega, by omega, rfl, rfl⟩
        · obtain rfl : z = 0 := hor.resolve_left hy
          clear hor
          have e1 : (y : Int) > 0 := by omega
          have e3 : (0 : Int) < (y : Int) := by omega
          have e5 : decide ((y : Int) > 0) = true := by simpa using e1
          go_wp2_with (first | (go_at_call 45; refine (HSk.out _).mono ?_; rintro e w2 ⟨rfl, q2, rfl⟩) | (go_at_call 73; refine (HIk.out _).mono ?_; rintro e w3 ⟨rfl, q3, rfl⟩))
          go_roundg (j + 1 - (k + 1))
          case measure => omega
          case rel => exact ⟨k + 1, _, by go_num, by omega, by omega, rfl, rfl⟩
    · obtain rfl : k = x := by omega
      obtain rfl : k = j := by omega
      have b1 : ¬ (k : Int) < (k : Int) := by omega
      go_wp2_with fail
      go_ret
      exact ⟨rfl, _, rfl⟩
end Go.Proofs.YthmbbiahnfpoeaaDoor
