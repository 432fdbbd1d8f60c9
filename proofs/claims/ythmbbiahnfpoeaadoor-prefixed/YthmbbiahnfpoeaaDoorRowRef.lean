import Derived.Test.YthmbbiahnfpoeaaDoorTrees
import Derived.Test.YthmbbiahnfpoeaaDoorCount
import Derived.WalkKit
import Derived.WalkSpells
import Derived.WalkSmall
import Derived.BigQuiet
import Derived.Deep.QuietTactic
import Derived.Deep.RegionWith
import Derived.Deep.LoopGhost
import Derived.Deep.RegionHeld3
import Derived.Deep.DeepCutAuto
import Derived.Laws.Concat
namespace Go.Proofs.YthmbbiahnfpoeaaDoor
open Go.RowKit

/-- A text of bytes. -/
def txt (l : List UInt8) : ByteArray := ⟨l.toArray⟩
theorem txt_append (a b : List UInt8) : txt a ++ txt b = txt (a ++ b) := by
  apply ByteArray.ext
  simp [txt, ByteArray.data_append]
theorem txt_size (a : List UInt8) : (txt a).size = a.length := by simp [txt, ByteArray.size]
theorem row_sub {N : Nat → Nat → Nat → Nat} {T : Nat → Nat → Nat → List UInt8} {v s : ByteArray} {a b : Nat} (hb : b ≤ s.size) : ∀ k a' i j, a' + k ≤ b - a → Pu.rowT N v (sub s a b) T k a' i j = Pu.rowT N v s T k (a + a') i j
  | 0, _, _, _, _ => rfl
  | k + 1, a', i, j, h => by
    simp only [Pu.rowT]
    rw [byt_sub hb (by omega)]
    have ih := fun i => row_sub (N := N) (T := T) (v := v) (a := a) hb k (a' + 1) i j (by omega)
    have iw := fun i => ways_sub (N := N) (v := v) (a := a) hb k (a' + 1) i j (by omega)
    simp only [ih, iw, Nat.add_assoc]
theorem row_tail {N : Nat → Nat → Nat → Nat} {T : Nat → Nat → Nat → List UInt8} {v t : ByteArray} {k i j : Nat} (h : t.size = k + 1) : Pu.rowT N v (t.extract 1 t.size) T k 0 i j = Pu.rowT N v t T k 1 i j :=
  row_sub (N := N) (T := T) (v := v) (s := t) (a := 1) (b := t.size) (Nat.le_refl _) k 0 i j (by omega)
theorem row_short {N M : Nat → Nat → Nat → Nat} {T : Nat → Nat → Nat → List UInt8} {v t : ByteArray} {n : Nat} (hM : ∀ c i j, i ≤ j → j ≤ n → M c i j ≤ N c i j)
    (hL : ∀ c i j, i ≤ j → j ≤ n → N c i j = 1 → 1 ≤ M c i j → (T c i j).length ≤ 10000000000000000) : ∀ k a i j, i ≤ j → j ≤ n → Pu.ways N v t k a i j = 1 → 1 ≤ Pu.ways M v t k a i j → (Pu.rowT N v t T k a i j).length ≤ k * 10000000000000000
  | 0, _, _, _, _, _, _, _ => by simp [Pu.rowT]
  | k + 1, a, i, j, hi, hj, h1, h2 => by
    by_cases hl : Pu.lt (Pu.byt t a) = true
    · have e1 := Pu.way_letter hl (Nat.le_of_eq h1.symm)
      have e2 := Pu.way_letter hl h2
      simp only [Pu.rowT]
      rw [if_pos hl]
      have := row_short (t := t) (T := T) hM hL k (a + 1) (i + 1) j (by omega) hj (by rw [← e1.2.2]; exact h1) (by rw [← e2.2.2]; exact h2)
      exact Nat.le_trans this (Nat.mul_le_mul_right _ (Nat.le_succ k))
    · obtain ⟨q, hq⟩ := Pu.one_cut hl h1
      obtain ⟨g1, g2⟩ := hq.lvl hl (fun c i' j' a1 a2 a3 => hM c i' j' a2 (by omega)) h2
      rw [hq.row hl, List.length_append, Nat.add_mul, Nat.add_comm]
      obtain ⟨q1, q2, q3, q4, _⟩ := hq
      exact Nat.add_le_add (row_short hM hL k (a + 1) q j q2 hj q4 g2) (by rw [Nat.one_mul]; exact hL _ _ _ q1 (by omega) q3 g1)

set_option maxRecDepth 100000 in
set_option maxHeartbeats 2000000 in
theorem trees_any (cb top base : Nat) (lv : Value) (v : ByteArray) (N M : Nat → Nat → Nat → Nat) (T : Nat → Nat → Nat → List UInt8) (A : World → Prop) (hn : v.size ≤ 24) (hN : ∀ c i j, N c i j ≤ 2)
    (hMN : ∀ c i j, i ≤ j → j ≤ v.size → M c i j ≤ N c i j) (hA : ∀ w w', A w → Below w.heap.size w w' → A w') (hAC : ∀ w, A w → ChartAt w cb top base v.size lv v N)
    (hL : ∀ c i j, i ≤ j → j ≤ v.size → N c i j = 1 → 1 ≤ M c i j → (T c i j).length ≤ 10000000000000000)
    (hT : ∀ (c i j : Nat) (w : World), i ≤ j → j ≤ v.size → N c i j = 1 → 1 ≤ M c i j → A w → Calls Tryd.prog 30 #[.pointer (some ⟨cb, 0, none⟩), .int .u8 c, .int .i64 i, .int .i64 j] w fun e w' => e = .returned (.string (txt (T c i j))) ∧ Below w.heap.size w w') :
    ∀ (m : Nat) (t : ByteArray) (i j : Nat) (w : World), t.size = m → m ≤ 3 → (∀ a, a < t.size → Pu.sg (Pu.byt t a) = true) → i ≤ j → j ≤ v.size → A w → Pu.ways N v t m 0 i j = 1 → 1 ≤ Pu.ways M v t m 0 i j →
    Calls Tryd.prog 51 #[.pointer (some ⟨cb, 0, none⟩), .string t, .int .i64 i, .int .i64 j] w fun e w' => e = .returned (.string (txt (Pu.rowT N v t T m 0 i j))) ∧ Below w.heap.size w w'
  | 0, t, i, j, w, ht, _, _, hij, hj, hw, h1, h2 => by
    obtain rfl : t = ⟨#[]⟩ := by
      apply ByteArray.ext
      exact Array.eq_empty_of_size_eq_zero ht
    go_enter Tryd.func51, Tryd.ntmps51
    go_wp2
    go_ret
    exact ⟨rfl, Below.refl _ _⟩
  | m + 1, t, i, j, w, ht, hm, hsg, hij, hj, hw, h1, h2 => by
    have ih := hide (trees_any cb top base lv v N M T A hn hN hMN hA hAC hL hT m)
    have h0 : 0 < t.size := by omega
    have hemp : t.toList.isEmpty = false := by
      cases hh : t.toList.isEmpty with
      | false => rfl
      | true =>
        have := (Go.toList_nil_iff_emptyBytes t).1 (List.isEmpty_iff.1 hh)
        rw [this] at ht; simp at ht
    have hs0 := hsg 0 h0
    have hby := Pu.byt_eq h0
    have tsz : (t.extract 1 t.size).size = m := by simp [ByteArray.size_extract]; omega
    have tsg : ∀ a, a < (t.extract 1 t.size).size → Pu.sg (Pu.byt (t.extract 1 t.size) a) = true := fun a ha => by
      have := byt_sub (s := t) (a := 1) (b := t.size) (k := a) (Nat.le_refl _) (by rw [tsz] at ha; omega)
      rw [show Pu.byt (t.extract 1 t.size) a = Pu.byt t (1 + a) from this]
      exact hsg _ (by rw [tsz] at ha; omega)
    have htl := fun (N : Nat → Nat → Nat → Nat) i j => ways_tail (N := N) (v := v) (i := i) (j := j) ht
    have htr := fun i j => row_tail (N := N) (T := T) (v := v) (i := i) (j := j) ht
    have HI : Hid (∀ (i j : Nat) (w : World), i ≤ j → j ≤ v.size → A w → Pu.ways N v t m 1 i j = 1 → 1 ≤ Pu.ways M v t m 1 i j → Calls Tryd.prog 51 #[.pointer (some ⟨cb, 0, none⟩), .string (t.extract 1 t.size), .int .i64 i, .int .i64 j] w fun e w' => e = .returned (.string (txt (Pu.rowT N v t T m 1 i j))) ∧ Below w.heap.size w w') := by
      intro i j w a1 a2 a3 a4 a5
      have := ih.out (t.extract 1 t.size) i j w tsz (by omega) tsg a1 a2 a3 (by rw [htl]; exact a4) (by rw [htl]; exact a5)
      rwa [htr i j] at this
    have HFR : Hid (∀ (i j : Nat) (w : World), i ≤ j → j ≤ v.size → ChartAt w cb top base v.size lv v N → Calls Tryd.prog 50 #[.pointer (some ⟨cb, 0, none⟩), .string (t.extract 1 t.size), .int .i64 i, .int .i64 j] w fun e w' => e = .returned (.int .i64 ↑(Pu.ways N v t m 1 i j)) ∧ ∃ q, w' = w.drewN q) := by
      intro i j w a1 a2 a3
      have := from_any cb top base lv v N hn hN m (t.extract 1 t.size) i j w tsz (by omega) tsg a1 a2 a3
      rwa [htl] at this
    clear ih tsz tsg htl htr hsg
    by_cases hlt : Pu.lt (Pu.byt t 0) = true
    · have hlt' : Pu.lt t[0].toNat = true := by rw [hby]; exact hlt
      have gl := hide (fun w => isLetter_any t[0].toNat w)
      have e1 := Pu.way_letter hlt (Nat.le_of_eq h1.symm)
      have e2 := Pu.way_letter hlt h2
      have hval : Aside (Pu.rowT N v t T (m + 1) 0 i j = Pu.rowT N v t T m 1 (i + 1) j) := by
        show _ = _
        simp only [Pu.rowT]
        rw [if_pos hlt]
      have HI1 : Hid (Calls Tryd.prog 51 #[.pointer (some ⟨cb, 0, none⟩), .string (t.extract 1 t.size), .int .i64 ((i : Int) + 1), .int .i64 j] w fun e w' => e = .returned (.string (txt (Pu.rowT N v t T m 1 (i + 1) j))) ∧ Below w.heap.size w w') := by
        have := HI.out (i + 1) j w (by omega) hj hw (by rw [← e1.2.2]; exact h1) (by rw [← e2.2.2]; exact h2)
        rwa [show ((i + 1 : Nat) : Int) = (i : Int) + 1 by omega] at this
      have b3 : (0 : Int) < (t.size : Int) := by omega
      clear hlt hby hs0 ht HI HFR h1 h2 e1 e2 hT
      go_enter Tryd.func51, Tryd.ntmps51
      go_wp2_with (first | (go_at_call 47; refine (gl.out _).mono ?_; rintro e w' ⟨rfl, rfl⟩) | (go_at_call 51; refine (HI1.out).mono ?_; rintro e w2 ⟨rfl, hb2⟩))
      go_ret
      exact ⟨by rw [hval.out]; rfl, hb2⟩
    · have hlt' : Pu.lt t[0].toNat = false := by rw [hby]; simpa using hlt
      have gl := hide (fun w => isLetter_any t[0].toNat w)
      obtain ⟨x, hx⟩ := Pu.one_cut hlt h1
      have hxl := hx.lvl hlt (fun c i' j' a1 a2 a3 => hMN c i' j' a2 (by omega)) h2
      have hval := aside_of (hx.row hlt T)
      obtain ⟨x1, x2, x3, x4, x5⟩ := hx
      have hnm : Pu.nm (Pu.byt t 0) = true := by
        simp only [Pu.sg, Bool.or_eq_true] at hs0
        exact hs0.resolve_right hlt
      obtain ⟨h65, h90⟩ := (nm_iff _).1 hnm
      have hl1 := hL _ _ _ x1 (by omega) x3 hxl.1
      have hl2 := row_short (t := t) hMN hL m 1 x j x2 hj x4 hxl.2
      have HTx := hide (hT (Pu.byt t 0) i x · x1 (by omega) x3 hxl.1)
      have HIx := hide (HI.out x j · x2 hj · x4 hxl.2)
      simp only [Nat.zero_add] at x3 x4 x5 hval
      rw [← hby] at h65 h90 hval x3 x5 HTx hl1
      have hl3 : (txt (T t[0].toNat i x)).size + (txt (Pu.rowT N v t T m 1 x j)).size ≤ 9223372036854775807 := by
        rw [txt_size, txt_size]
        have : m * 10000000000000000 ≤ 3 * 10000000000000000 := Nat.mul_le_mul_right _ (by omega)
        omega
      have HX5 := hide x5
      have b3 : (0 : Int) < (t.size : Int) := by omega
      clear hlt hby hs0 ht hnm HI hT hl1 hl2 h1 h2 x5 hxl hL hMN
      go_enter Tryd.func51, Tryd.ntmps51
      go_wp2_with (go_at_call 47; refine (gl.out _).mono ?_; rintro e w' ⟨rfl, rfl⟩)
      go_loopg [9] (j + 2 - i) (fun g kv V => ∃ (k q : Nat), kv = .int .i64 k ∧ i ≤ k ∧ k ≤ x ∧ g = j + 2 - k ∧ V = w'.drewN q)
      case atStart => exact ⟨i, 0, rfl, Nat.le_refl _, x1, rfl, rfl⟩
      case round =>
        obtain ⟨k, q, rfl, hik, hkx, rfl, rfl⟩ := hrel
        have h := hAC _ hw
        have c2 := h.c2
        have hk0 : t[0].toNat - 65 < 26 := by omega
        have d1 := h.cube.c1 hk0
        have d2 := h.cube.c2 hk0 (show i ≤ v.size by omega)
        have d3 := h.cube.c3 hk0 (show i ≤ v.size by omega) (show k ≤ v.size by omega)
        simp only [show 65 + (t[0].toNat - 65) = t[0].toNat by omega] at d3
        have HFk := hide (fun q' => HFR.out k j (w'.drewN q') (by omega) hj (h.drewN q'))
        have b1 : (0 : Int) ≤ (i : Int) := by omega
        have b2 : (i : Int) < (v.size : Int) + 1 := by omega
        have b4 : (0 : Int) ≤ (k : Int) := by omega
        have b5 : (k : Int) < (v.size : Int) + 1 := by omega
        have b6 : (k : Int) ≤ (j : Int) := by omega
        have e65 : (65 : Int) ≤ (t[0].toNat : Int) := by omega
        have e90 : (t[0].toNat : Int) ≤ 90 := by omega
        by_cases hkx' : k = x
        · subst hkx'
          have HF1 : Hid (∀ q', Calls Tryd.prog 50 #[.pointer (some ⟨cb, 0, none⟩), .string (t.extract 1 t.size), .int .i64 k, .int .i64 j] (w'.drewN (q + q')) fun e w'' => e = .returned (.int .i64 1) ∧ ∃ m, w'' = w'.drewN (q + m)) := fun q' => by
            have := HFk.out (q + q')
            rw [x4] at this
            exact this.mono fun e w'' ⟨h1, m, h2⟩ => ⟨h1, q' + m, by rw [h2, drewN_drewN', Nat.add_assoc]⟩
          have d4 : w'.cell? ⟨tb base v.size (t[0].toNat - 65) + (i + 1), k, none⟩ = some (.int .i64 1) := by rw [d3, x3]; rfl
          have HAw := hide (fun V (hb : Below w'.heap.size w' V) => hA _ _ hw hb)
          clear HFk HFR HX5 d3 x3 x4 h
          generalize tb base v.size (t[0].toNat - 65) = tk at *
          go_wp2_with fail
          go_quiet ((go_at_call 50; exact HF1.out _))
          go_wp2_with fail
          have b8 : (1 : Int) ≤ (t.size : Int) := by omega
          have hcat := fun w => run_string_add_sum (P := Tryd.prog) w _ _ hl3
          go_region_with (first | (go_at_call 30; refine (HTx.out _ (HAw.out _ (by exact ⟨rfl, rfl, rfl, Nat.le_refl _, fun _ _ => rfl⟩))).mono ?_; rintro e w1 ⟨rfl, hb1⟩) | (go_at_call 51; refine (HIx.out _ (hA _ _ (HAw.out _ (by exact ⟨rfl, rfl, rfl, Nat.le_refl _, fun _ _ => rfl⟩)) hb1)).mono ?_; rintro e w2 ⟨rfl, hb2⟩))
          all_goals
            go_wp2_with fail
            go_ret
            have hb3 : Below w'.heap.size w' w1 := ⟨hb1.os, hb1.tape, hb1.output, hb1.size, hb1.block⟩
            exact ⟨by rw [hval.out, ← txt_append]; rfl, hb3.trans (hb2.mono hb3.size)⟩
        · have h5 := HX5.out k hik (by omega) hkx'
          have hkj : k ≤ j := by omega
          clear HX5
          by_cases hone : N t[0].toNat i k = 1
          · have x0 : Pu.ways N v t m (0 + 1) k j = 0 := by rw [hone, Nat.one_mul] at h5; exact h5
            have HF1 : Hid (∀ q', Calls Tryd.prog 50 #[.pointer (some ⟨cb, 0, none⟩), .string (t.extract 1 t.size), .int .i64 k, .int .i64 j] (w'.drewN (q + q')) fun e w'' => e = .returned (.int .i64 0) ∧ ∃ m, w'' = w'.drewN (q + m)) := fun q' => by
              have := HFk.out (q + q')
              rw [x0] at this
              exact this.mono fun e w'' ⟨h1, m, h2⟩ => ⟨h1, q' + m, by rw [h2, drewN_drewN', Nat.add_assoc]⟩
            have d4 : w'.cell? ⟨tb base v.size (t[0].toNat - 65) + (i + 1), k, none⟩ = some (.int .i64 1) := by rw [d3, hone]; rfl
            clear HFk HFR d3 x3 x4 h h5 hone x0
            generalize tb base v.size (t[0].toNat - 65) = tk at *
            go_wp2_with fail
            go_quiet ((go_at_call 50; exact HF1.out _))
            go_wp2_with fail
            go_roundg (j + 2 - (k + 1))
            case measure => omega
            case rel => exact ⟨k + 1, _, by go_num, by omega, by omega, rfl, rfl⟩
          · have e1 : ((N t[0].toNat i k : Int) == 1) = false := by simp; omega
            clear HFk HFR x3 x4 h h5 hone
            generalize N t[0].toNat i k = y at *
            generalize tb base v.size (t[0].toNat - 65) = tk at *
            go_wp2_with fail
            go_quiet (fail)
            go_wp2_with fail
            go_roundg (j + 2 - (k + 1))
            case measure => omega
            case rel => exact ⟨k + 1, _, by go_num, by omega, by omega, rfl, rfl⟩
end Go.Proofs.YthmbbiahnfpoeaaDoor
