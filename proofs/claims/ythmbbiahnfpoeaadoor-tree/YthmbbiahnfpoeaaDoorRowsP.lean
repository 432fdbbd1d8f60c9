import Derived.Test.YthmbbiahnfpoeaaDoorSign
import Derived.WalkKit
import Derived.WalkSpells
import Derived.WalkSmall
import Derived.BigQuiet
import Derived.Deep.QuietTactic
import Derived.Deep.RegionWith
import Derived.Deep.LoopGhost
import Derived.Deep.RegionHeld3
import Derived.Deep.DeepCutAuto
namespace Go.Proofs.YthmbbiahnfpoeaaDoor
open Go.RowKit

theorem rowsP_sub {N : Nat → Nat → Nat → Nat} {v s : ByteArray} {a b : Nat} (hb : b ≤ s.size) : ∀ k a' i j, a' + k ≤ b - a → Pu.rowsP N v (sub s a b) k a' i j = Pu.rowsP N v s k (a + a') i j
  | 0, _, _, _, _ => rfl
  | 1, a', i, j, h => by
    simp only [Pu.rowsP]
    rw [byt_sub hb (by omega)]
  | k + 2, a', i, j, h => by
    simp only [Pu.rowsP]
    rw [byt_sub hb (by omega)]
    have ih := fun i => rowsP_sub (N := N) (v := v) (a := a) hb (k + 1) (a' + 1) i j (by omega)
    simp only [ih, Nat.add_assoc]
theorem rowsP_tail {N : Nat → Nat → Nat → Nat} {v t : ByteArray} {k i j : Nat} (h : t.size = k + 1) : Pu.rowsP N v (t.extract 1 t.size) k 0 i j = Pu.rowsP N v t k 1 i j :=
  rowsP_sub (N := N) (v := v) (s := t) (a := 1) (b := t.size) (Nat.le_refl _) k 0 i j (by omega)

set_option maxRecDepth 100000 in
set_option maxHeartbeats 2000000 in
theorem rows_any (pb top base q g cap B : Nat) (v s : ByteArray) (R : List (Nat × Nat)) (L : List Nat) (N : Nat → Nat → Nat → Nat) (hv : v.size ≤ 24) (hN : ∀ c i j, N c i j ≤ 2) : ∀ (m : Nat) (t : ByteArray) (i j : Nat) (w : World), t.size = m → m ≤ 3 → (∀ a, a < t.size → Pu.nm (Pu.byt t a) = true → Pu.byt t a ∈ L) → i ≤ j → j ≤ v.size → ProgAt w pb top base q g cap B v s R L N →
    Calls Tryd.prog 73 #[.pointer (some ⟨pb, 0, none⟩), .string t, .int .i64 i, .int .i64 j] w fun e w' => e = .returned (.int .i64 ↑(Pu.rowsP N v t m 0 i j)) ∧ ∃ d, w' = w.drewN d
  | 0, t, i, j, w, ht, _, _, hij, hj, h => by
    obtain rfl : t = ⟨#[]⟩ := by
      apply ByteArray.ext
      exact Array.eq_empty_of_size_eq_zero ht
    by_cases e : i = j
    · subst e
      clear h ht
      go_enter Tryd.func73, Tryd.ntmps73
      go_wp2
      go_ret
      exact ⟨ret_int (by simp [Pu.rowsP]), 0, rfl⟩
    · have e' : ((i : Int) == (j : Int)) = false := by simp; omega
      clear h ht
      go_enter Tryd.func73, Tryd.ntmps73
      go_wp2
      go_ret
      exact ⟨ret_int (by simp [Pu.rowsP, e]), 0, rfl⟩
  | 1, t, i, j, w, ht, _, hL, hij, hj, h => by
    have h0 : 0 < t.size := by omega
    have hby := Pu.byt_eq h0
    have hS := sign_any pb top base q g cap B v s R L N t[0].toNat i j w hv h (UInt8.toNat_lt _) (by rw [hby]; exact hL 0 h0) hij hj
    have HS := hide hS
    have e0 : ((t.size : Int) == 0) = false := by rw [ht]; rfl
    have e1 : ((t.size : Int) == 1) = true := by rw [ht]; rfl
    have b3 : (0 : Int) < (t.size : Int) := by omega
    have hval : Aside (Pu.rowsP N v t 1 0 i j = Pu.sgn N v t[0].toNat i j) := by show _ = _; rw [hby]; rfl
    clear h hS hL hby ht
    go_enter Tryd.func73, Tryd.ntmps73
    go_wp2_with (go_at_call 45; refine HS.out.mono ?_; rintro e w' ⟨rfl, d, rfl⟩)
    go_ret
    exact ⟨ret_int (by rw [hval.out]), _, rfl⟩
  | m + 2, t, i, j, w, ht, hm, hL, hij, hj, h => by
    have ih := hide (rows_any pb top base q g cap B v s R L N hv hN (m + 1))
    have h0 : 0 < t.size := by omega
    have hby := Pu.byt_eq h0
    have tsz : (t.extract 1 t.size).size = m + 1 := by simp [ByteArray.size_extract]; omega
    have tsg : ∀ a, a < (t.extract 1 t.size).size → Pu.nm (Pu.byt (t.extract 1 t.size) a) = true → Pu.byt (t.extract 1 t.size) a ∈ L := fun a ha => by
      have := byt_sub (s := t) (a := 1) (b := t.size) (k := a) (Nat.le_refl _) (by rw [tsz] at ha; omega)
      rw [show Pu.byt (t.extract 1 t.size) a = Pu.byt t (1 + a) from this]
      exact hL _ (by rw [tsz] at ha; omega)
    have htl := fun i j => rowsP_tail (N := N) (v := v) (i := i) (j := j) ht
    have HI : Hid (∀ (i j : Nat) (w : World), i ≤ j → j ≤ v.size → ProgAt w pb top base q g cap B v s R L N → Calls Tryd.prog 73 #[.pointer (some ⟨pb, 0, none⟩), .string (t.extract 1 t.size), .int .i64 i, .int .i64 j] w fun e w' => e = .returned (.int .i64 ↑(Pu.rowsP N v t (m + 1) 1 i j)) ∧ ∃ d, w' = w.drewN d) := by
      intro i j w h1 h2 h3
      have := ih.out (t.extract 1 t.size) i j w tsz (by omega) tsg h1 h2 h3
      rwa [htl i j] at this
    have HS : Hid (∀ (j : Nat) (w : World), i ≤ j → j ≤ v.size → ProgAt w pb top base q g cap B v s R L N → Calls Tryd.prog 45 #[.pointer (some ⟨pb, 0, none⟩), .int .u8 t[0].toNat, .int .i64 i, .int .i64 j] w fun e w' => e = .returned (.int .i64 ↑(Pu.sgn N v t[0].toNat i j)) ∧ ∃ d, w' = w.drewN d) := by
      intro j w h1 h2 h3
      exact sign_any pb top base q g cap B v s R L N t[0].toNat i j w hv h3 (UInt8.toNat_lt _) (by rw [hby]; exact hL 0 h0) h1 h2
    have hval : Aside (Pu.rowsP N v t (m + 2) 0 i j = Pu.acc (fun c => Pu.sgn N v t[0].toNat i c * Pu.rowsP N v t (m + 1) 1 c j) (j + 1 - i) i 0) := by show _ = _; rw [hby]; rfl
    have e0 : ((t.size : Int) == 0) = false := beq_eq_false_iff_ne.2 (by omega)
    have e1 : ((t.size : Int) == 1) = false := beq_eq_false_iff_ne.2 (by omega)
    have b3 : (0 : Int) < (t.size : Int) := by omega
    have b31 : (1 : Int) ≤ (t.size : Int) := by omega
    obtain ⟨f, hf⟩ : ∃ f : Nat → Nat, f = fun c => Pu.sgn N v t[0].toNat i c * Pu.rowsP N v t (m + 1) 1 c j := ⟨_, rfl⟩
    rw [← hf] at hval
    have HF := aside_of hf
    have HW := hide (Pu.rowsP_le hN v t (m + 1) 1)
    have HV := hide (Pu.sgn_le hN v t[0].toNat i)
    clear ih tsz tsg htl hL hby ht hf
    go_enter Tryd.func73, Tryd.ntmps73
    go_wp2_with fail
    go_loopg [9, 10] (j + 2 - i) (fun g nv kv V => ∃ (k a d : Nat), nv = .int .i64 a ∧ kv = .int .i64 k ∧ i ≤ k ∧ k ≤ j + 1 ∧ a ≤ 2 ∧ g = j + 2 - k ∧ V = w.drewN d ∧ Pu.acc f (j + 1 - i) i 0 = Pu.acc f (j + 1 - k) k a)
    case atStart => exact ⟨i, 0, 0, rfl, rfl, Nat.le_refl _, by omega, by omega, by omega, rfl, rfl⟩
    case round =>
      obtain ⟨k, a, d, rfl, rfl, hik, hkj, ha, rfl, rfl, hac⟩ := hrel
      have HA := aside_of hac
      clear hac
      by_cases hgo : k ≤ j ∧ a < 2
      · obtain ⟨hkj', ha2⟩ := hgo
        have hstep : Aside (Pu.acc f (j + 1 - k) k a = Pu.acc f (j + 1 - (k + 1)) (k + 1) (min 2 (a + f k))) := by
          show _ = _
          rw [show j + 1 - k = (j + 1 - (k + 1)) + 1 by omega]; rfl
        have hfk : Aside (f k = Pu.sgn N v t[0].toNat i k * Pu.rowsP N v t (m + 1) 1 k j) := by show _ = _; rw [HF.out]
        have hNk := HV.out k
        have hWk := HW.out k j
        have HSk := hide (fun q' => HS.out k (w.drewN q') hik (by omega) (h.drewN q'))
        have HIk := hide (fun q' => HI.out k j (w.drewN q') hkj' hj (h.drewN q'))
        generalize Pu.sgn N v t[0].toNat i k = mv at *
        generalize Pu.rowsP N v t (m + 1) 1 k j = x at *
        have b4 : (0 : Int) ≤ (k : Int) := by omega
        have b6 : (k : Int) ≤ (j : Int) := by omega
        have b7 : (a : Int) < 2 := by omega
        have b8 : decide ((k : Int) ≤ (j : Int)) = true := by simpa using b6
        rcases (show mv = 0 ∨ mv = 1 ∨ mv = 2 by omega) with rfl | rfl | rfl
        · have hf0 : Aside (f k = 0) := by show _ = _; rw [hfk.out]; omega
          clear hfk
          go_wp2_with (go_at_call 45; refine (HSk.out _).mono ?_; rintro e w2 ⟨rfl, q2, rfl⟩)
          all_goals
            go_roundg (j + 2 - (k + 1))
            case measure => omega
            case rel => exact ⟨k + 1, a, _, rfl, by go_num, by omega, by omega, ha, rfl, rfl, by rw [HA.out, hstep.out, hf0.out, show min 2 (a + 0) = a by omega]⟩
        · have hf0 : Aside (f k = x) := by show _ = _; rw [hfk.out]; omega
          clear hfk
          go_wp2_with (first | (go_at_call 45; refine (HSk.out _).mono ?_; rintro e w2 ⟨rfl, q2, rfl⟩) | (go_at_call 73; refine (HIk.out _).mono ?_; rintro e w3 ⟨rfl, q3, rfl⟩))
          all_goals
            go_roundg (j + 2 - (k + 1))
            case measure => omega
            case rel => exact ⟨k + 1, min 2 (a + x), _, (by congr 1; omega), by go_num, by omega, by omega, by omega, rfl, rfl, by rw [HA.out, hstep.out, hf0.out]⟩
        · have hf0 : Aside (f k = 2 * x) := by show _ = _; rw [hfk.out]
          clear hfk
          go_wp2_with (first | (go_at_call 45; refine (HSk.out _).mono ?_; rintro e w2 ⟨rfl, q2, rfl⟩) | (go_at_call 73; refine (HIk.out _).mono ?_; rintro e w3 ⟨rfl, q3, rfl⟩))
          all_goals
            go_roundg (j + 2 - (k + 1))
            case measure => omega
            case rel => exact ⟨k + 1, min 2 (a + 2 * x), _, (by congr 1; omega), by go_num, by omega, by omega, by omega, rfl, rfl, by rw [HA.out, hstep.out, hf0.out]⟩
      · by_cases hkj2 : k ≤ j
        · obtain rfl : a = 2 := by omega
          have hfin : Aside (Pu.acc f (j + 1 - i) i 0 = 2) := by show _ = _; rw [HA.out]; exact Pu.acc_two f _ _
          have b6 : (k : Int) ≤ (j : Int) := by omega
          clear hgo
          go_wp2_with fail
          go_ret
          exact ⟨ret_int (by rw [hval.out, hfin.out]), _, rfl⟩
        · obtain rfl : k = j + 1 := by omega
          have hfin : Aside (Pu.acc f (j + 1 - i) i 0 = a) := by show _ = _; rw [HA.out, Nat.sub_self]; rfl
          have b6 : ¬ ((j : Int) + 1 ≤ (j : Int)) := by omega
          clear hgo
          go_wp2_with fail
          go_ret
          exact ⟨ret_int (by rw [hval.out, hfin.out]), _, rfl⟩
end Go.Proofs.YthmbbiahnfpoeaaDoor
