import Derived.Test.YthmbbiahnfpoeaaDoorBlank
import Derived.WalkKit
import Derived.WalkSpells
import Derived.WalkSmall
import Derived.BigQuiet
import Derived.Deep.QuietTactic
import Derived.Deep.RegionWith
import Derived.Deep.LoopGhost
import Derived.Deep.RegionHeld3
import Derived.Deep.DeepCutAuto
namespace Go.Proofs.YthmbbiahnfpoeaaDoor
open Go.RowKit

/-- A chart in memory: the rules' slice, the word, the counts of each letter's number. -/
structure ChartAt (w : World) (cb top base n : Nat) (lv : Value) (v : ByteArray) (N : Nat → Nat → Nat → Nat) : Prop where
  blk : w.heap[cb]? = some (.cells #[lv, .string v, .slice (some ⟨top, 0, none⟩) 26 26] 69 (0, 0))
  cube : Cube w top base 26 n (fun k i j => N (65 + k) i j)
section
variable {w w' : World} {cb top base n : Nat} {lv : Value} {v : ByteArray} {N : Nat → Nat → Nat → Nat}
theorem ChartAt.below (h : ChartAt w cb top base n lv v N) (hb : Below w.heap.size w w') : ChartAt w' cb top base n lv v N := ⟨by rw [hb.block _ (lt_heap h.blk)]; exact h.blk, h.cube.below hb⟩
theorem ChartAt.drewN (h : ChartAt w cb top base n lv v N) (m : Nat) : ChartAt (w.drewN m) cb top base n lv v N := h.below (Go.below_drewN (Below.refl _ _) m)
theorem ChartAt.c1 (h : ChartAt w cb top base n lv v N) : w.cell? ⟨cb, 1, none⟩ = some (.string v) := by have := h.blk; simp [World.cell?, this]
theorem ChartAt.c2 (h : ChartAt w cb top base n lv v N) : w.cell? ⟨cb, 2, none⟩ = some (.slice (some ⟨top, 0, none⟩) 26 26) := by have := h.blk; simp [World.cell?, this]
end
theorem least_any (a b : Nat) (w : World) : Calls Tryd.prog 49 #[.int .i64 a, .int .i64 b] w fun e w' => e = .returned (.int .i64 ↑(min a b)) ∧ w' = w := by
  by_cases h : a < b
  · have h' : (a : Int) < (b : Int) := by omega
    go_enter Tryd.func49, Tryd.ntmps49
    go_wp2
    go_ret
    exact ⟨ret_int (by omega), rfl⟩
  · have h' : ¬ (a : Int) < (b : Int) := by omega
    go_enter Tryd.func49, Tryd.ntmps49
    go_wp2
    go_ret
    exact ⟨ret_int (by omega), rfl⟩
theorem least2 (b : Nat) (w : World) : Calls Tryd.prog 49 #[.int .i64 2, .int .i64 b] w fun e w' => e = .returned (.int .i64 ↑(min 2 b)) ∧ w' = w := least_any 2 b w
theorem least2' (c : Nat) {z : Int} (w : World) (hz : z = (c : Int)) : Calls Tryd.prog 49 #[.int .i64 2, .int .i64 z] w fun e w' => e = .returned (.int .i64 ↑(min 2 c)) ∧ w' = w := by subst hz; exact least2 c w
theorem drewN_drewN' (w : World) (a b : Nat) : (w.drewN a).drewN b = w.drewN (a + b) := by simp [World.drewN, Nat.add_assoc]
theorem ways_sub {N : Nat → Nat → Nat → Nat} {v s : ByteArray} {a b : Nat} (hb : b ≤ s.size) : ∀ k a' i j, a' + k ≤ b - a → Pu.ways N v (sub s a b) k a' i j = Pu.ways N v s k (a + a') i j
  | 0, _, _, _, _ => rfl
  | k + 1, a', i, j, h => by
    simp only [Pu.ways]
    rw [byt_sub hb (by omega)]
    have ih := fun i => ways_sub (N := N) (v := v) (a := a) hb k (a' + 1) i j (by omega)
    simp only [ih, Nat.add_assoc]
theorem ways_tail {N : Nat → Nat → Nat → Nat} {v t : ByteArray} {k i j : Nat} (h : t.size = k + 1) : Pu.ways N v (t.extract 1 t.size) k 0 i j = Pu.ways N v t k 1 i j := by
  have := ways_sub (N := N) (v := v) (s := t) (a := 1) (b := t.size) (Nat.le_refl _) k 0 i j (by omega)
  exact this

set_option maxRecDepth 100000 in
set_option maxHeartbeats 2000000 in
theorem from_any (cb top base : Nat) (lv : Value) (v : ByteArray) (N : Nat → Nat → Nat → Nat) (hn : v.size ≤ 24) (hN : ∀ c i j, N c i j ≤ 2) : ∀ (m : Nat) (t : ByteArray) (i j : Nat) (w : World), t.size = m → m ≤ 3 → (∀ a, a < t.size → Pu.sg (Pu.byt t a) = true) → i ≤ j → j ≤ v.size → ChartAt w cb top base v.size lv v N →
    Calls Tryd.prog 50 #[.pointer (some ⟨cb, 0, none⟩), .string t, .int .i64 i, .int .i64 j] w fun e w' => e = .returned (.int .i64 ↑(Pu.ways N v t m 0 i j)) ∧ ∃ q, w' = w.drewN q
  | 0, t, i, j, w, ht, _, _, hij, hj, h => by
    obtain rfl : t = ⟨#[]⟩ := by
      apply ByteArray.ext
      exact Array.eq_empty_of_size_eq_zero ht
    by_cases e : i = j
    · subst e
      go_enter Tryd.func50, Tryd.ntmps50
      go_wp2
      go_ret
      exact ⟨ret_int (by simp [Pu.ways]), 0, rfl⟩
    · have e' : ((i : Int) == (j : Int)) = false := by simp; omega
      go_enter Tryd.func50, Tryd.ntmps50
      go_wp2
      go_ret
      exact ⟨ret_int (by simp [Pu.ways, e]), 0, rfl⟩
  | m + 1, t, i, j, w, ht, hm, hsg, hij, hj, h => by
    have ih := hide (from_any cb top base lv v N hn hN m)
    have h0 : 0 < t.size := by omega
    have hemp : t.toList.isEmpty = false := by
      cases hh : t.toList.isEmpty with
      | false => rfl
      | true =>
        have := (Go.toList_nil_iff_emptyBytes t).1 (List.isEmpty_iff.1 hh)
        rw [this] at ht; simp at ht
    have hs0 := hsg 0 h0
    have hby := Pu.byt_eq h0
    have tsz : (t.extract 1 t.size).size = m := by simp [ByteArray.size_extract]; omega
    have tsg : ∀ a, a < (t.extract 1 t.size).size → Pu.sg (Pu.byt (t.extract 1 t.size) a) = true := fun a ha => by
      have := byt_sub (s := t) (a := 1) (b := t.size) (k := a) (Nat.le_refl _) (by rw [tsz] at ha; omega)
      rw [show Pu.byt (t.extract 1 t.size) a = Pu.byt t (1 + a) from this]
      exact hsg _ (by rw [tsz] at ha; omega)
    have htl := fun i j => ways_tail (N := N) (v := v) (i := i) (j := j) ht
    have HI : Hid (∀ (i j : Nat) (w : World), i ≤ j → j ≤ v.size → ChartAt w cb top base v.size lv v N → Calls Tryd.prog 50 #[.pointer (some ⟨cb, 0, none⟩), .string (t.extract 1 t.size), .int .i64 i, .int .i64 j] w fun e w' => e = .returned (.int .i64 ↑(Pu.ways N v t m 1 i j)) ∧ ∃ q, w' = w.drewN q) := by
      intro i j w h1 h2 h3
      have := ih.out (t.extract 1 t.size) i j w tsz (by omega) tsg h1 h2 h3
      rwa [htl i j] at this
    have c1 := h.c1
    have c2 := h.c2
    clear ih tsz tsg htl hsg
    by_cases hlt : Pu.lt (Pu.byt t 0) = true
    · have hlt' : Pu.lt t[0].toNat = true := by rw [hby]; exact hlt
      have gl := hide (fun w => isLetter_any t[0].toNat w)
      by_cases hc : i < j ∧ Pu.byt v i = Pu.byt t 0
      · have hiv : i < v.size := by omega
        have hval : Aside (Pu.ways N v t (m + 1) 0 i j = Pu.ways N v t m 1 (i + 1) j) := by
          show _ = _
          simp only [Pu.ways]
          rw [if_pos hlt, if_pos hc]
        have e1 : ((v[i].toNat : Int) == (t[0].toNat : Int)) = true := by rw [Pu.byt_eq hiv, hby, hc.2]; exact beq_self_eq_true _
        have g1 : (i : Int) < (j : Int) := by omega
        have g2 : decide ((i : Int) < (j : Int)) = true := by simpa using g1
        have b1 : (0 : Int) ≤ (i : Int) := by omega
        have b2 : (i : Int) < (v.size : Int) := by omega
        have b3 : (0 : Int) < (t.size : Int) := by omega
        have hlt1 : i + 1 ≤ j := by omega
        have HI1 : Hid (∀ w, ChartAt w cb top base v.size lv v N → Calls Tryd.prog 50 #[.pointer (some ⟨cb, 0, none⟩), .string (t.extract 1 t.size), .int .i64 ((i : Int) + 1), .int .i64 j] w fun e w' => e = .returned (.int .i64 ↑(Pu.ways N v t m 1 (i + 1) j)) ∧ ∃ q, w' = w.drewN q) := fun w hw => by
          have := HI.out (i + 1) j w hlt1 hj hw
          rwa [show ((i + 1 : Nat) : Int) = (i : Int) + 1 by omega] at this
        clear hlt hc hby hs0 ht HI
        go_enter Tryd.func50, Tryd.ntmps50
        go_wp2_with (go_at_call 47; refine (gl.out _).mono ?_; rintro e w' ⟨rfl, rfl⟩)
        go_quiet (fail)
        go_wp2_with (go_at_call 50; refine (HI1.out _ (h.drewN _)).mono ?_; rintro e w2 ⟨rfl, q2, rfl⟩)
        go_ret
        exact ⟨ret_int (by rw [hval.out]), _, rfl⟩
      · have hval : Aside (Pu.ways N v t (m + 1) 0 i j = 0) := by
          show _ = _
          simp only [Pu.ways]
          rw [if_pos hlt, if_neg hc]
        by_cases hij2 : i < j
        · have hiv : i < v.size := by omega
          have e1 : ((v[i].toNat : Int) == (t[0].toNat : Int)) = false := by
            rw [Pu.byt_eq hiv, hby]
            have : Pu.byt v i ≠ Pu.byt t 0 := fun e => hc ⟨hij2, e⟩
            simp; omega
          have g1 : (i : Int) < (j : Int) := by omega
          have g2 : decide ((i : Int) < (j : Int)) = true := by simpa using g1
          have b1 : (0 : Int) ≤ (i : Int) := by omega
          have b2 : (i : Int) < (v.size : Int) := by omega
          have b3 : (0 : Int) < (t.size : Int) := by omega
          clear hlt hc hby hs0 ht HI
          go_enter Tryd.func50, Tryd.ntmps50
          go_wp2_with (go_at_call 47; refine (gl.out _).mono ?_; rintro e w' ⟨rfl, rfl⟩)
          go_quiet (fail)
          go_wp2_with fail
          go_ret
          exact ⟨ret_int (by rw [hval.out]; rfl), _, rfl⟩
        · obtain rfl : i = j := by omega
          have g2 : decide ((i : Int) < (i : Int)) = false := by simp
          clear hlt hc hby hs0 ht HI
          go_enter Tryd.func50, Tryd.ntmps50
          go_wp2_with (go_at_call 47; refine (gl.out _).mono ?_; rintro e w' ⟨rfl, rfl⟩)
          go_quiet (fail)
          go_wp2_with fail
          go_ret
          exact ⟨ret_int (by rw [hval.out]; rfl), _, rfl⟩
    · have hlt' : Pu.lt t[0].toNat = false := by rw [hby]; simpa using hlt
      have gl := hide (fun w => isLetter_any t[0].toNat w)
      have hval : Aside (Pu.ways N v t (m + 1) 0 i j = Pu.acc (fun c => N (Pu.byt t 0) i c * Pu.ways N v t m 1 c j) (j + 1 - i) i 0) := by
        show _ = _
        simp only [Pu.ways]
        rw [if_neg hlt]
      have hnm : Pu.nm (Pu.byt t 0) = true := by
        simp only [Pu.sg, Bool.or_eq_true] at hs0
        exact hs0.resolve_right hlt
      obtain ⟨h65, h90⟩ := (nm_iff _).1 hnm
      rw [← hby] at h65 h90 hval
      obtain ⟨f, hf⟩ : ∃ f : Nat → Nat, f = fun c => N t[0].toNat i c * Pu.ways N v t m 1 c j := ⟨_, rfl⟩
      rw [← hf] at hval
      have HF := aside_of hf
      have b3 : (0 : Int) < (t.size : Int) := by omega
      have HW := hide (Pu.ways_le N v t m 1)
      clear hlt hby hs0 ht hf hnm
      go_enter Tryd.func50, Tryd.ntmps50
      go_wp2_with (go_at_call 47; refine (gl.out _).mono ?_; rintro e w' ⟨rfl, rfl⟩)
      clear c1 c2
      go_loopg [9, 10] (j + 2 - i) (fun g nv kv V => ∃ (k a q : Nat), nv = .int .i64 a ∧ kv = .int .i64 k ∧ i ≤ k ∧ k ≤ j + 1 ∧ a ≤ 2 ∧ g = j + 2 - k ∧ V = w'.drewN q ∧ Pu.acc f (j + 1 - i) i 0 = Pu.acc f (j + 1 - k) k a)
      case atStart => exact ⟨i, 0, 0, rfl, rfl, Nat.le_refl _, by omega, by omega, by omega, rfl, rfl⟩
      case round =>
        obtain ⟨k, a, q, rfl, rfl, hik, hkj, ha, rfl, rfl, hac⟩ := hrel
        have HA := aside_of hac
        clear hac
        by_cases hgo : k ≤ j ∧ a < 2
        · obtain ⟨hkj', ha2⟩ := hgo
          have c2 := h.c2
          have hk0 : t[0].toNat - 65 < 26 := by omega
          have d1 := h.cube.c1 hk0
          have d2 := h.cube.c2 hk0 (show i ≤ v.size by omega)
          have d3 := h.cube.c3 hk0 (show i ≤ v.size by omega) (show k ≤ v.size by omega)
          simp only [show 65 + (t[0].toNat - 65) = t[0].toNat by omega] at d3
          have hstep : Aside (Pu.acc f (j + 1 - k) k a = Pu.acc f (j + 1 - (k + 1)) (k + 1) (min 2 (a + f k))) := by
            show _ = _
            rw [show j + 1 - k = (j + 1 - (k + 1)) + 1 by omega]; rfl
          have hfk : Aside (f k = N t[0].toNat i k * Pu.ways N v t m 1 k j) := by show _ = _; rw [HF.out]
          have hNk := hN t[0].toNat i k
          have hWk := HW.out k j
          have HIk := hide (fun q' => HI.out k j (w'.drewN q') hkj' hj (h.drewN q'))
          generalize N t[0].toNat i k = mv at *
          generalize Pu.ways N v t m 1 k j = x at *
          generalize tb base v.size (t[0].toNat - 65) = tk at *
          have b1 : (0 : Int) ≤ (i : Int) := by omega
          have b2 : (i : Int) < (v.size : Int) + 1 := by omega
          have b4 : (0 : Int) ≤ (k : Int) := by omega
          have b5 : (k : Int) < (v.size : Int) + 1 := by omega
          have b6 : (k : Int) ≤ (j : Int) := by omega
          have b7 : (a : Int) < 2 := by omega
          have b8 : decide ((k : Int) ≤ (j : Int)) = true := by simpa using b6
          have e65 : (65 : Int) ≤ (t[0].toNat : Int) := by omega
          have e90 : (t[0].toNat : Int) ≤ 90 := by omega
          rcases (show mv = 0 ∨ mv = 1 ∨ mv = 2 by omega) with rfl | rfl | rfl
          · have hf0 : Aside (f k = 0) := by show _ = _; rw [hfk.out]; omega
            clear hfk
            go_wp2_with fail
            go_quiet (fail)
            go_wp2_with fail
            go_roundg (j + 2 - (k + 1))
            case measure => omega
            case rel => exact ⟨k + 1, a, _, rfl, by go_num, by omega, by omega, ha, rfl, rfl, by rw [HA.out, hstep.out, hf0.out, show min 2 (a + 0) = a by omega]⟩
          · have hf0 : Aside (f k = x) := by show _ = _; rw [hfk.out]; omega
            clear hfk
            go_wp2_with fail
            go_quiet (fail)
            go_wp2_with (first | (go_at_call 50; refine (HIk.out _).mono ?_; rintro e w2 ⟨rfl, q2, rfl⟩) | (go_at_call 49; refine (least2' (a + x) _ ?_).mono ?_; omega; rintro e w3 ⟨rfl, rfl⟩))
            go_roundg (j + 2 - (k + 1))
            case measure => omega
            case rel => exact ⟨k + 1, min 2 (a + x), _, rfl, by go_num, by omega, by omega, by omega, rfl, rfl, by rw [HA.out, hstep.out, hf0.out]⟩
          · have hf0 : Aside (f k = 2 * x) := by show _ = _; rw [hfk.out]
            clear hfk
            go_wp2_with fail
            go_quiet (fail)
            go_wp2_with (first | (go_at_call 50; refine (HIk.out _).mono ?_; rintro e w2 ⟨rfl, q2, rfl⟩) | (go_at_call 49; refine (least2' (a + 2 * x) _ ?_).mono ?_; omega; rintro e w3 ⟨rfl, rfl⟩))
            go_roundg (j + 2 - (k + 1))
            case measure => omega
            case rel => exact ⟨k + 1, min 2 (a + 2 * x), _, rfl, by go_num, by omega, by omega, by omega, rfl, rfl, by rw [HA.out, hstep.out, hf0.out]⟩
        · by_cases hkj2 : k ≤ j
          · obtain rfl : a = 2 := by omega
            have hfin : Aside (Pu.acc f (j + 1 - i) i 0 = 2) := by show _ = _; rw [HA.out]; exact Pu.acc_two f _ _
            have b6 : (k : Int) ≤ (j : Int) := by omega
            clear hgo
            go_wp2_with fail
            go_ret
            exact ⟨ret_int (by rw [hval.out, hfin.out]), _, rfl⟩
          · obtain rfl : k = j + 1 := by omega
            have hfin : Aside (Pu.acc f (j + 1 - i) i 0 = a) := by show _ = _; rw [HA.out, Nat.sub_self]; rfl
            have b6 : ¬ ((j : Int) + 1 ≤ (j : Int)) := by omega
            clear hgo
            go_wp2_with fail
            go_ret
            exact ⟨ret_int (by rw [hval.out, hfin.out]), _, rfl⟩
end Go.Proofs.YthmbbiahnfpoeaaDoor
