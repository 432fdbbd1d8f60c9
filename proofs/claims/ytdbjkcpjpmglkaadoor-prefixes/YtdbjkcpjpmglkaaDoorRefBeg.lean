import Derived.Test.YtdbjkcpjpmglkaaDoorGrid
import Derived.Test.YtdbjkcpjpmglkaaDoorFrom
import Derived.WalkKit
import Derived.WalkSpells
import Derived.WalkSmall
import Derived.BigQuiet
import Derived.Deep.QuietTactic
import Derived.Deep.RegionWith
import Derived.Deep.LoopGhost
import Derived.Deep.RegionHeld3
import Derived.Deep.DeepCutAuto
namespace Go.Proofs.YtdbjkcpjpmglkaaDoor
open Go.RowKit

theorem beg_sub {N : Nat → Nat → Nat → Nat} {v s : ByteArray} {n : Nat} {G : Nat → Nat → Bool} {a b : Nat} (hb : b ≤ s.size) : ∀ k a' i, a' + k ≤ b - a → Pu.beg N v (sub s a b) n G k a' i = Pu.beg N v s n G k (a + a') i
  | 0, _, _, _ => rfl
  | k + 1, a', i, h => by
    simp only [Pu.beg]
    rw [byt_sub hb (by omega)]
    have ih := fun i => beg_sub (N := N) (v := v) (n := n) (G := G) (a := a) hb k (a' + 1) i (by omega)
    simp only [ih, Nat.add_assoc]
theorem beg_tail {N : Nat → Nat → Nat → Nat} {v t : ByteArray} {n : Nat} {G : Nat → Nat → Bool} {k i : Nat} (h : t.size = k + 1) : Pu.beg N v (t.extract 1 t.size) n G k 0 i = Pu.beg N v t n G k 1 i :=
  beg_sub (N := N) (v := v) (s := t) (a := 1) (b := t.size) (Nat.le_refl _) k 0 i (by omega)
theorem Grid.drewN {w : World} {top base A n : Nat} {G : Nat → Nat → Bool} (h : Grid w top base A n G) (m : Nat) : Grid (w.drewN m) top base A n G := h.below (Go.below_drewN (Below.refl _ _) m)

set_option maxRecDepth 100000 in
set_option maxHeartbeats 2000000 in
theorem begins_any (cb top base gt gb : Nat) (lv : Value) (v : ByteArray) (N : Nat → Nat → Nat → Nat) (G : Nat → Nat → Bool) (hn : v.size ≤ 24) : ∀ (m : Nat) (t : ByteArray) (i : Nat) (w : World), t.size = m → m ≤ 3 → (∀ a, a < t.size → Pu.sg (Pu.byt t a) = true) → i ≤ v.size → ChartAt w cb top base v.size lv v N → Grid w gt gb 26 (v.size + 1) (fun k i => G (65 + k) i) →
    Calls Tryd.prog 53 #[.pointer (some ⟨cb, 0, none⟩), .string t, .int .i64 i, .slice (some ⟨gt, 0, none⟩) 26 26] w fun e w' => e = .returned (.bool (Pu.beg N v t v.size G m 0 i)) ∧ ∃ q, w' = w.drewN q
  | 0, t, i, w, ht, _, _, hi, h, hg => by
    obtain rfl : t = ⟨#[]⟩ := by
      apply ByteArray.ext
      exact Array.eq_empty_of_size_eq_zero ht
    have c1 := h.c1
    by_cases e : i = v.size
    · subst e
      clear h hg ht
      go_enter Tryd.func53, Tryd.ntmps53
      go_wp2
      go_ret
      exact ⟨by simp [Pu.beg], 0, rfl⟩
    · have e' : ((i : Int) == (v.size : Int)) = false := by simp; omega
      clear h hg ht
      go_enter Tryd.func53, Tryd.ntmps53
      go_wp2
      go_ret
      exact ⟨by simp [Pu.beg, e], 0, rfl⟩
  | m + 1, t, i, w, ht, hm, hsg, hi, h, hg => by
    have ih := hide (begins_any cb top base gt gb lv v N G hn m)
    have h0 : 0 < t.size := by omega
    have hemp : t.toList.isEmpty = false := by
      cases hh : t.toList.isEmpty with
      | false => rfl
      | true =>
        have := (Go.toList_nil_iff_emptyBytes t).1 (List.isEmpty_iff.1 hh)
        rw [this] at ht; simp at ht
    have hs0 := hsg 0 h0
    have hby := Pu.byt_eq h0
    have tsz : (t.extract 1 t.size).size = m := by simp [ByteArray.size_extract]; omega
    have tsg : ∀ a, a < (t.extract 1 t.size).size → Pu.sg (Pu.byt (t.extract 1 t.size) a) = true := fun a ha => by
      have := byt_sub (s := t) (a := 1) (b := t.size) (k := a) (Nat.le_refl _) (by rw [tsz] at ha; omega)
      rw [show Pu.byt (t.extract 1 t.size) a = Pu.byt t (1 + a) from this]
      exact hsg _ (by rw [tsz] at ha; omega)
    have htl := fun i => beg_tail (N := N) (v := v) (n := v.size) (G := G) (i := i) ht
    have HI : Hid (∀ (i : Nat) (w : World), i ≤ v.size → ChartAt w cb top base v.size lv v N → Grid w gt gb 26 (v.size + 1) (fun k i => G (65 + k) i) → Calls Tryd.prog 53 #[.pointer (some ⟨cb, 0, none⟩), .string (t.extract 1 t.size), .int .i64 i, .slice (some ⟨gt, 0, none⟩) 26 26] w fun e w' => e = .returned (.bool (Pu.beg N v t v.size G m 1 i)) ∧ ∃ q, w' = w.drewN q) := by
      intro i w h1 h2 h3
      have := ih.out (t.extract 1 t.size) i w tsz (by omega) tsg h1 h2 h3
      rwa [htl i] at this
    have c1 := h.c1
    clear ih tsz tsg htl hsg
    by_cases e : i = v.size
    · subst e
      have hval : Aside (Pu.beg N v t v.size G (m + 1) 0 v.size = true) := by show _ = _; simp [Pu.beg]
      clear h hg HI hs0 hby ht
      go_enter Tryd.func53, Tryd.ntmps53
      go_wp2
      go_ret
      exact ⟨by rw [hval.out]; rfl, 0, rfl⟩
    · have hiv : i < v.size := by omega
      have e' : ((i : Int) == (v.size : Int)) = false := by simp; omega
      have b1 : (0 : Int) ≤ (i : Int) := by omega
      have b2 : (i : Int) < (v.size : Int) := by omega
      have b3 : (0 : Int) < (t.size : Int) := by omega
      have b31 : (1 : Int) ≤ (t.size : Int) := by omega
      have gl := hide (fun w => isLetter_any t[0].toNat w)
      by_cases hlt : Pu.lt (Pu.byt t 0) = true
      · have hlt' : Pu.lt t[0].toNat = true := by rw [hby]; exact hlt
        by_cases hc : Pu.byt v i = Pu.byt t 0
        · have hval : Aside (Pu.beg N v t v.size G (m + 1) 0 i = Pu.beg N v t v.size G m 1 (i + 1)) := by
            show _ = _
            simp only [Pu.beg]
            rw [if_neg e, if_pos hlt, hc]; simp
          have e1 : ((v[i].toNat : Int) == (t[0].toNat : Int)) = true := by rw [Pu.byt_eq hiv, hby, hc]; exact beq_self_eq_true _
          have HI1 : Hid (∀ d, Calls Tryd.prog 53 #[.pointer (some ⟨cb, 0, none⟩), .string (t.extract 1 t.size), .int .i64 ((i : Int) + 1), .slice (some ⟨gt, 0, none⟩) 26 26] (w.drewN d) fun e w' => e = .returned (.bool (Pu.beg N v t v.size G m 1 (i + 1))) ∧ ∃ q, w' = (w.drewN d).drewN q) := fun d => by
            have := HI.out (i + 1) (w.drewN d) hiv (h.drewN d) (hg.drewN d)
            rwa [show ((i + 1 : Nat) : Int) = (i : Int) + 1 by omega] at this
          clear hlt hc hby hs0 ht HI h hg e
          generalize Pu.beg N v t v.size G m 1 (i + 1) = bb at *
          go_enter Tryd.func53, Tryd.ntmps53
          go_wp2_with (go_at_call 47; refine (gl.out _).mono ?_; rintro e w' ⟨rfl, rfl⟩)
          go_quiet ((go_at_call 53; refine Calls.quiet_of (HI1.out _)))
          go_wp2_with fail
          go_ret
          exact ⟨by rw [hval.out]; rfl, _, rfl⟩
        · have hval : Aside (Pu.beg N v t v.size G (m + 1) 0 i = false) := by
            show _ = _
            simp only [Pu.beg]
            rw [if_neg e, if_pos hlt]; simp [hc]
          have e1 : ((v[i].toNat : Int) == (t[0].toNat : Int)) = false := by rw [Pu.byt_eq hiv, hby]; simp; omega
          clear hlt hc hby hs0 ht HI h hg e
          go_enter Tryd.func53, Tryd.ntmps53
          go_wp2_with (go_at_call 47; refine (gl.out _).mono ?_; rintro e w' ⟨rfl, rfl⟩)
          go_quiet (fail)
          go_wp2_with fail
          go_ret
          exact ⟨by rw [hval.out]; rfl, _, rfl⟩
      · have hlt' : Pu.lt t[0].toNat = false := by rw [hby]; simpa using hlt
        have hnm : Pu.nm (Pu.byt t 0) = true := by
          simp only [Pu.sg, Bool.or_eq_true] at hs0
          exact hs0.resolve_right hlt
        obtain ⟨h65, h90⟩ := (nm_iff _).1 hnm
        rw [← hby] at h65 h90
        have hk0 : t[0].toNat - 65 < 26 := by omega
        have g1 := hg.c1 hk0
        have g2 := hg.c2 hk0 (show i < v.size + 1 by omega)
        simp only [show 65 + (t[0].toNat - 65) = t[0].toNat by omega] at g2
        have g1' : w.cell? ⟨gt, ((t[0].toNat : Int) - 65).toNat, none⟩ = some (.slice (some ⟨gb + (t[0].toNat - 65), 0, none⟩) (v.size + 1) (v.size + 1)) := by rw [show ((t[0].toNat : Int) - 65).toNat = t[0].toNat - 65 by omega]; exact g1
        have e65 : (65 : Int) ≤ (t[0].toNat : Int) := by omega
        have e90 : (t[0].toNat : Int) ≤ 90 := by omega
        have b5 : (i : Int) < (v.size : Int) + 1 := by omega
        have b6 : (0 : Int) ≤ (t[0].toNat : Int) - 65 := by omega
        have b7 : (t[0].toNat : Int) - 65 < 26 := by omega
        by_cases hG : G t[0].toNat i = true
        · rw [hG] at g2
          have hval : Aside (Pu.beg N v t v.size G (m + 1) 0 i = true) := by
            show _ = _
            simp only [Pu.beg]
            rw [if_neg e, if_neg hlt, ← hby, if_pos hG]
          clear hlt hby hs0 ht HI h hg e hnm hG
          generalize gb + (t[0].toNat - 65) = gr at *
          go_enter Tryd.func53, Tryd.ntmps53
          go_wp2_with (go_at_call 47; refine (gl.out _).mono ?_; rintro e w' ⟨rfl, rfl⟩)
          go_ret
          exact ⟨by rw [hval.out]; rfl, 0, rfl⟩
        · have hGf : G t[0].toNat i = false := by simpa using hG
          rw [hGf] at g2
          have hval : Aside (Pu.beg N v t v.size G (m + 1) 0 i = Pu.anyIn (fun j => decide (0 < N t[0].toNat i j) && Pu.beg N v t v.size G m 1 j) (v.size + 1 - i) i) := by
            show _ = _
            rw [hby]
            conv => lhs; unfold Pu.beg
            rw [if_neg e, if_neg hlt, ← hby, if_neg hG]
          obtain ⟨f, hf⟩ : ∃ f : Nat → Bool, f = fun j => decide (0 < N t[0].toNat i j) && Pu.beg N v t v.size G m 1 j := ⟨_, rfl⟩
          rw [← hf] at hval
          have HF := aside_of hf
          clear hlt hby hs0 ht e hnm hG hGf hf
          generalize gb + (t[0].toNat - 65) = gr at *
          go_enter Tryd.func53, Tryd.ntmps53
          go_wp2_with (go_at_call 47; refine (gl.out _).mono ?_; rintro e w' ⟨rfl, rfl⟩)
          clear g1 g1' g2 c1
          go_loopg [10] (v.size + 2 - i) (fun n kv V => ∃ (k d : Nat), kv = .int .i64 k ∧ i ≤ k ∧ k ≤ v.size + 1 ∧ n = v.size + 2 - k ∧ V = w'.drewN d ∧ Pu.anyIn f (v.size + 1 - i) i = Pu.anyIn f (v.size + 1 - k) k)
          case atStart => exact ⟨i, 0, rfl, Nat.le_refl _, by omega, rfl, rfl, rfl⟩
          case round =>
            obtain ⟨k, d, rfl, hik, hkv, rfl, rfl, hac⟩ := hrel
            have HA := aside_of hac
            clear hac
            have c1 := h.c1
            by_cases hkl : k ≤ v.size
            · have c2 := h.c2
              have d1 := h.cube.c1 hk0
              have d1' : w'.cell? ⟨top, ((t[0].toNat : Int) - 65).toNat, none⟩ = some (.slice (some ⟨tb base v.size (t[0].toNat - 65), 0, none⟩) (v.size + 1) (v.size + 1)) := by rw [show ((t[0].toNat : Int) - 65).toNat = t[0].toNat - 65 by omega]; exact d1
              have d2 := h.cube.c2 hk0 hi
              have d3 := h.cube.c3 hk0 hi hkl
              simp only [show 65 + (t[0].toNat - 65) = t[0].toNat by omega] at d3
              have hstep : Aside (Pu.anyIn f (v.size + 1 - k) k = (f k || Pu.anyIn f (v.size + 1 - (k + 1)) (k + 1))) := by
                show _ = _
                rw [show v.size + 1 - k = (v.size + 1 - (k + 1)) + 1 by omega]; rfl
              have hfk : Aside (f k = (decide (0 < N t[0].toNat i k) && Pu.beg N v t v.size G m 1 k)) := by show _ = _; rw [HF.out]
              have HIk := hide (fun q' => HI.out k (w'.drewN q') hkl (h.drewN q') (hg.drewN q'))
              generalize N t[0].toNat i k = x at *
              generalize Pu.beg N v t v.size G m 1 k = bb at *
              generalize tb base v.size (t[0].toNat - 65) = tk at *
              have k1 : (0 : Int) ≤ (k : Int) := by omega
              have k2 : (k : Int) < (v.size : Int) + 1 := by omega
              have k3 : (k : Int) ≤ (v.size : Int) := by omega
              by_cases hx : x = 0
              · subst hx
                have HN : Aside (Pu.anyIn f (v.size + 1 - i) i = Pu.anyIn f (v.size + 1 - (k + 1)) (k + 1)) := by show _ = _; rw [HA.out, hstep.out, hfk.out]; simp
                clear HA hstep hfk HIk
                go_wp2_with fail
                go_roundg (v.size + 2 - (k + 1))
                case measure => omega
                case rel => exact ⟨k + 1, _, by go_num, by omega, by omega, rfl, rfl, HN.out⟩
              · have e1 : (x : Int) > 0 := by omega
                have e2 : (0 : Int) < (x : Int) := by omega
                have e3 : decide ((x : Int) > 0) = true := by simpa using e1
                have hx' : 0 < x := by omega
                cases bb with
                | false =>
                  have HN : Aside (Pu.anyIn f (v.size + 1 - i) i = Pu.anyIn f (v.size + 1 - (k + 1)) (k + 1)) := by show _ = _; rw [HA.out, hstep.out, hfk.out]; simp
                  clear HA hstep hfk
                  go_wp2_with (go_at_call 53; refine (HIk.out _).mono ?_; rintro e w2 ⟨rfl, q2, rfl⟩)
                  go_roundg (v.size + 2 - (k + 1))
                  case measure => omega
                  case rel => exact ⟨k + 1, _, by go_num, by omega, by omega, rfl, rfl, HN.out⟩
                | true =>
                  have HN : Aside (Pu.anyIn f (v.size + 1 - i) i = true) := by show _ = _; rw [HA.out, hstep.out, hfk.out]; simp [hx']
                  clear HA hstep hfk
                  go_wp2_with (go_at_call 53; refine (HIk.out _).mono ?_; rintro e w2 ⟨rfl, q2, rfl⟩)
                  go_ret
                  exact ⟨by rw [hval.out, HN.out]; rfl, _, rfl⟩
            · obtain rfl : k = v.size + 1 := by omega
              have HN : Aside (Pu.anyIn f (v.size + 1 - i) i = false) := by show _ = _; rw [HA.out, Nat.sub_self]; rfl
              have k3 : ¬ ((v.size : Int) + 1 ≤ (v.size : Int)) := by omega
              clear HA
              go_wp2_with fail
              go_ret
              exact ⟨by rw [hval.out, HN.out]; rfl, _, rfl⟩
end Go.Proofs.YtdbjkcpjpmglkaaDoor
