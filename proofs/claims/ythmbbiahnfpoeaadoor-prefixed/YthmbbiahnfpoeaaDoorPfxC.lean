import Derived.Test.YthmbbiahnfpoeaaDoorPfxA
import Derived.WalkKit
import Derived.WalkSpells
import Derived.WalkSmall
import Derived.BigQuiet
import Derived.Deep.QuietTactic
import Derived.Deep.RegionWith
import Derived.Deep.LoopGhost
import Derived.Deep.RegionHeld3
import Derived.Deep.DeepCutAuto
import Derived.Test.YthmbbiahnfpoeaaDoorPfxB
import Derived.Test.YthmbbiahnfpoeaaDoorCountsW
import Derived.Laws.Concat
import Derived.Test.YthmbbiahnfpoeaaDoorWit
import Derived.ProofKit
import Derived.OpenShut
import Derived.Deep.DeepHandedRow
import Derived.Lib.LaidTab
namespace Go.Proofs.YthmbbiahnfpoeaaDoor
open Go.RowKit

namespace Pu
theorem way_name {M : Nat → Nat → Nat → Nat} {v s : ByteArray} {k a i j : Nat} (hl : ¬ lt (byt s a) = true) (h : 1 ≤ ways M v s (k + 1) a i j) : ∃ q, i ≤ q ∧ q ≤ j ∧ 1 ≤ M (byt s a) i q ∧ 1 ≤ ways M v s k (a + 1) q j := by
  simp only [ways] at h
  rw [if_neg hl] at h
  obtain ⟨q, h1, h2, h3⟩ := acc_pos _ _ h
  exact ⟨q, h1, by omega, Nat.pos_of_ne_zero (fun e => by rw [e] at h3; omega), Nat.pos_of_ne_zero (fun e => by rw [e] at h3; omega)⟩
theorem phi_pos {M : Nat → Nat → Nat → Nat} {v s : ByteArray} {R : List (Nat × Nat)} {c i j : Nat} (h : 1 ≤ phi v s R M c i j) : ∃ r ∈ R, byt s r.1 = c ∧ 1 ≤ ways M v s (r.2 - (r.1 + 2)) (r.1 + 2) i j := by
  rw [phi_acc] at h
  obtain ⟨r, _, h2, h3⟩ := acc_pos _ _ h
  have hr : r < R.length := by omega
  rw [ruleW_at hr] at h3
  split at h3
  · rename_i e; exact ⟨R[r], List.getElem_mem hr, e, h3⟩
  · omega
section
variable {N M : Nat → Nat → Nat → Nat} {v s : ByteArray} {R : List (Nat × Nat)} {n nv : Nat} {G : Nat → Nat → Bool}
/-- A row that has a piece that goes on behind place n begins with what is ahead of it. -/
theorem beg_of_ways (hM : ∀ c i j, i ≤ j → j ≤ nv → M c i j ≤ N c i j) (hG : ∀ c i j, i < n → n ≤ j → j ≤ nv → 1 ≤ M c i j → G c i = true) : ∀ k a i j, i ≤ n → n ≤ j → j ≤ nv → 1 ≤ ways M v s k a i j → beg N v s n G k a i = true
  | 0, _, i, j, h1, h2, _, h => by
    simp only [ways] at h
    split at h
    · simp only [beg, decide_eq_true_eq]; omega
    · omega
  | k + 1, a, i, j, h1, h2, h3, h => by
    by_cases e : i = n
    · simp only [beg]; rw [if_pos e]
    · by_cases hl : lt (byt s a) = true
      · obtain ⟨g1, g2, g3⟩ := way_letter hl h
        simp only [beg]
        rw [if_neg e, if_pos hl, Bool.and_eq_true, decide_eq_true_eq]
        exact ⟨g2, beg_of_ways hM hG k (a + 1) (i + 1) j (by omega) h2 h3 (by rw [← g3]; exact h)⟩
      · obtain ⟨q, g1, g2, g3, g4⟩ := way_name hl h
        simp only [beg]
        rw [if_neg e, if_neg hl]
        by_cases hq : n ≤ q
        · rw [if_pos (hG _ i q (by omega) hq (by omega) g3)]
        · split
          · rfl
          · rw [anyIn_iff]
            refine ⟨q, g1, by omega, ?_⟩
            rw [Bool.and_eq_true, decide_eq_true_eq]
            exact ⟨by have := hM (byt s a) i q g1 (by omega); omega, beg_of_ways hM hG k (a + 1) q j (by omega) h2 h3 g4⟩
theorem opens_of_lvl (hst : Stands v s R nv N) (hc : ClosedB N v s R n G) : ∀ p c i j, i < n → n ≤ j → j ≤ nv → 1 ≤ lvl v s R p c i j → G c i = true
  | 0, _, _, _, _, _, _, h => by simp only [lvl] at h; omega
  | p + 1, c, i, j, h1, h2, h3, h => by
    obtain ⟨r, hr, e, hw⟩ := phi_pos h
    refine hc c i h1 ⟨r, hr, e, ?_⟩
    exact beg_of_ways (M := lvl v s R p) (fun c i j g1 g2 => hst.le p g2 c i j (Nat.zero_le _) g1 (Nat.le_refl _)) (fun c i j g1 g2 g3 g4 => opens_of_lvl hst hc p c i j g1 g2 g3 g4) _ _ i j (by omega) h2 h3 hw
/-- A beginning of a beginning is one. -/
theorem lfp_head {m n1 : Nat} (hst : Stands v s R nv (lvl v s R m)) {G1 : Nat → Nat → Bool} (h0 : Lfp (lvl v s R m) v s R n G) (h1 : Lfp (lvl v s R m) v s R n1 G1) (hn : n ≤ n1) (hv : n1 ≤ nv) {c i : Nat} (hi : i < n) (hg : G1 c i = true) : G c i = true := by
  obtain ⟨H, hH⟩ : ∃ H : Nat → Nat → Bool, H = fun c i => if i < n then G c i else true := ⟨_, rfl⟩
  have key : ∀ k a i, i ≤ n → beg (lvl v s R m) v s n1 H k a i = true → beg (lvl v s R m) v s n G k a i = true := by
    intro k
    induction k with
    | zero => intro a i hi hb; simp only [beg, decide_eq_true_eq] at hb ⊢; omega
    | succ k ih =>
      intro a i hi hb
      by_cases e : i = n
      · simp only [beg]; rw [if_pos e]
      · simp only [beg] at hb ⊢
        rw [if_neg (by omega)] at hb
        rw [if_neg e]
        by_cases hl : lt (byt s a) = true
        · rw [if_pos hl, Bool.and_eq_true] at hb ⊢
          exact ⟨hb.1, ih (a + 1) (i + 1) (by omega) hb.2⟩
        · rw [if_neg hl] at hb ⊢
          have hHi : H (byt s a) i = G (byt s a) i := by rw [hH]; exact if_pos (by omega)
          rw [hHi] at hb
          by_cases hg : G (byt s a) i = true
          · rw [if_pos hg]
          · rw [if_neg hg] at hb ⊢
            rw [anyIn_iff] at hb ⊢
            obtain ⟨j, g1, g2, g3⟩ := hb
            rw [Bool.and_eq_true, decide_eq_true_eq] at g3
            by_cases hj : j ≤ n
            · exact ⟨j, g1, by omega, by rw [Bool.and_eq_true, decide_eq_true_eq]; exact ⟨g3.1, ih (a + 1) j hj g3.2⟩⟩
            · exact absurd (opens_of_lvl hst h0.closed m (byt s a) i j (by omega) (by omega) (by omega) g3.1) hg
  have hcl : ClosedB (lvl v s R m) v s R n1 H := fun c i hi ⟨r, hr, e, hb⟩ => by
    by_cases hin : i < n
    · rw [hH]
      show (if i < n then G c i else true) = true
      rw [if_pos hin]
      exact h0.closed c i hin ⟨r, hr, e, key _ _ i (by omega) hb⟩
    · rw [hH]
      show (if i < n then G c i else true) = true
      rw [if_neg hin]
  have := h1.under H hcl c i (by omega) hg
  rw [hH] at this
  have h2 : (if i < n then G c i else true) = true := this
  rwa [if_pos hi] at h2
end
section
variable {N : Nat → Nat → Nat → Nat} {v s : ByteArray} {R : List (Nat × Nat)} {c : Nat}
theorem Pfx.le : ∀ k p, Pfx N v s R c k p → p ≤ k
  | 0, p, h => by simp only [Pfx] at h; omega
  | k + 1, p, h => by
    simp only [Pfx] at h
    rcases h with ⟨_, rfl⟩ | ⟨_, h⟩
    · exact Nat.le_refl _
    · have := Pfx.le k p h; omega
theorem Pfx.yes : ∀ k p, Pfx N v s R c k p → 0 < p → Bg N v s R c p true
  | 0, p, h, hp => by simp only [Pfx] at h; omega
  | k + 1, p, h, hp => by
    simp only [Pfx] at h
    rcases h with ⟨h, rfl⟩ | ⟨_, h⟩
    · exact h
    · exact Pfx.yes k p h hp
theorem Pfx.no : ∀ k p, Pfx N v s R c k p → ∀ n, p < n → n ≤ k → Bg N v s R c n false
  | 0, p, h, n, h1, h2 => by omega
  | k + 1, p, h, n, h1, h2 => by
    simp only [Pfx] at h
    rcases h with ⟨_, rfl⟩ | ⟨g, h⟩
    · omega
    · by_cases e : n = k + 1
      · subst e; exact g
      · exact Pfx.no k p h n h1 (by omega)
end
theorem badL_none {v : ByteArray} : ∀ m i, badL v m i = none ↔ ∀ x, i ≤ x → x < i + m → lt (byt v x) = true
  | 0, i => ⟨fun _ x h1 h2 => by omega, fun _ => rfl⟩
  | m + 1, i => by
    simp only [badL]
    by_cases h : lt (byt v i) = true
    · rw [if_pos h, badL_none m (i + 1)]
      constructor
      · intro hh x h1 h2
        by_cases e : x = i
        · subst e; exact h
        · exact hh x (by omega) (by omega)
      · intro hh x h1 h2; exact hh x (by omega) (by omega)
    · rw [if_neg h]
      constructor
      · intro hh; cases hh
      · intro hh; exact absurd (hh i (Nat.le_refl _) (by omega)) h
theorem wrd_zero {v : ByteArray} : Wrd v 0 0 ↔ v.size ≤ 24 ∧ ∀ x, x < v.size → lt (byt v x) = true := by
  unfold Wrd
  constructor
  · intro h
    split at h
    · omega
    · split at h
      · omega
      · rename_i hb
        exact ⟨by omega, fun x hx => (badL_none _ _).1 hb x (Nat.zero_le _) (by omega)⟩
  · rintro ⟨h1, h2⟩
    rw [if_neg (by omega), (badL_none v.size 0).2 (fun x _ hx => h2 x (by omega))]
    exact ⟨rfl, rfl⟩
theorem wrd_not {v : ByteArray} (h : ¬ Wrd v 0 0) : ∃ a p, Wrd v a p ∧ a ≠ 0 := by
  by_cases h24 : 24 < v.size
  · exact ⟨1, 0, by unfold Wrd; rw [if_pos h24]; exact ⟨rfl, rfl⟩, by decide⟩
  · cases hb : badL v v.size 0 with
    | some k => exact ⟨5, k, by unfold Wrd; rw [if_neg h24, hb]; exact ⟨rfl, rfl⟩, by decide⟩
    | none => exact absurd (by unfold Wrd; rw [if_neg h24, hb]; exact ⟨rfl, rfl⟩) h
/-- What Prefixed asks. -/
theorem prefixed_pure {s u v : ByteArray} {m a e x b f y n h z ga gp wa wp : Nat} {t : List UInt8} (hu : u.size ≤ v.size) (hb : ∀ x, x < u.size → byt u x = byt v x) (hm : Cnt v s (rulesOf s) v.size (lvl v s (rulesOf s) m))
    (h1 : Prf s u m a e x) (h2 : Prf s v m b f y) (h3 : Trs s v m n t h z) (hg : Chk s ga gp) (hw : Wrd v wa wp) :
    ((ga ≠ 0 ∨ wa ≠ 0) → f ≠ 0 ∧ b = 0 ∧ h ≠ 0) ∧
    (ga = 0 → wa = 0 → e = 0 ∧ f = 0 ∧ h = 0 ∧ a ≤ u.size ∧ a ≤ b ∧ b ≤ v.size ∧ (a < u.size → b = a ∧ n = 0) ∧ (a = u.size → n = 0 ∨ b = v.size)) := by
  obtain ⟨a1, p1, c1, h1⟩ := h1
  obtain ⟨a2, p2, c2, h2⟩ := h2
  obtain ⟨a3, p3, c3, h3⟩ := h3
  obtain ⟨rfl, rfl⟩ := c1.unique hg
  obtain ⟨rfl, rfl⟩ := c2.unique c1
  obtain ⟨rfl, rfl⟩ := c3.unique c2
  by_cases ha : a3 = 0
  · rw [if_pos ha] at h1 h2 h3
    obtain ⟨d1, q1, w1, h1⟩ := h1
    obtain ⟨d2, q2, w2, h2⟩ := h2
    obtain ⟨d3, q3, w3, h3⟩ := h3
    obtain ⟨rfl, rfl⟩ := w2.unique hw
    obtain ⟨rfl, rfl⟩ := w3.unique w2
    by_cases hd : d3 = 0
    · rw [if_pos hd] at h2 h3
      subst hd
      obtain ⟨hp2, rfl, rfl⟩ := h2
      obtain ⟨hn, _, rfl, rfl⟩ := h3
      refine ⟨fun hh => by omega, fun _ _ => ?_⟩
      obtain ⟨_, rfl, _⟩ := wrd_ok hw
      obtain ⟨v24, vl⟩ := wrd_zero.1 hw
      have wu : Wrd u 0 0 := wrd_zero.2 ⟨by omega, fun x hx => by rw [hb x hx]; exact vl x (by omega)⟩
      obtain ⟨rfl, rfl⟩ := w1.unique wu
      rw [if_pos rfl] at h1
      obtain ⟨hp1, rfl, rfl⟩ := h1
      have hst : Stands v s (rulesOf s) v.size (lvl v s (rulesOf s) m) := ⟨hm.2⟩
      have cut : ∀ k r, k ≤ u.size → Bg (lvl u s (rulesOf s) m) u s (rulesOf s) (byt s 0) k r → Bg (lvl v s (rulesOf s) m) v s (rulesOf s) (byt s 0) k r := fun k r hk hB => hB.cut (fun x hx => hb x (by omega))
      have ha1 := Pfx.le _ _ hp1
      have hb1 := Pfx.le _ _ hp2
      have hab : a ≤ b := by
        refine Decidable.byContradiction fun hlt => ?_
        have t1 := cut a true (by omega) (Pfx.yes _ _ hp1 (by omega))
        have t2 := Pfx.no _ _ hp2 a (by omega) (by omega)
        exact absurd (t1.unique t2 (by omega)) (by decide)
      refine ⟨rfl, rfl, rfl, ha1, hab, hb1, fun hlt => ?_, fun heq => ?_⟩
      · obtain ⟨G0, hL0, hf0⟩ := cut u.size false (Nat.le_refl _) (Pfx.no _ _ hp1 u.size hlt (Nat.le_refl _))
        constructor
        · refine Decidable.byContradiction fun hne => ?_
          have t1 := Pfx.yes _ _ hp2 (by omega)
          by_cases hbu : b ≤ u.size
          · have t2 := cut b false hbu (Pfx.no _ _ hp1 b (by omega) hbu)
            exact absurd (t1.unique t2 (by omega)) (by decide)
          · obtain ⟨G1, hL1, hf1⟩ := t1
            have := lfp_head hst hL0 hL1 (by omega) hb1 (c := byt s 0) (i := 0) (by omega) hf1.symm
            rw [← hf0] at this; cases this
        · refine Decidable.byContradiction fun hne => ?_
          have := opens_of_lvl hst hL0.closed m (byt s 0) 0 v.size (by omega) hu (Nat.le_refl _) (by omega)
          rw [← hf0] at this; cases this
      · refine Decidable.byContradiction fun hne => ?_
        have hlt : b < v.size := by omega
        obtain ⟨G1, hL1, hf1⟩ := Pfx.no _ _ hp2 v.size hlt (Nat.le_refl _)
        have := opens_of_lvl hst hL1.closed m (byt s 0) 0 v.size (by omega) (Nat.le_refl _) (Nat.le_refl _) (by omega)
        rw [← hf1] at this; cases this
    · rw [if_neg hd] at h2 h3
      exact ⟨fun _ => by omega, fun _ h => absurd h hd⟩
  · rw [if_neg ha] at h2 h3
    exact ⟨fun _ => by omega, fun h => absurd h ha⟩
end Pu

/-- What plain answers. -/
def PlainAns (v : ByteArray) (e : Ending) : Prop := ∃ a p, Pu.Wrd v a p ∧ e = .returned (.bool (decide (a = 0)))
theorem PlainAns.mk {v : ByteArray} {e : Ending} (a p : Nat) (h : Pu.Wrd v a p) (he : e = .returned (.bool (decide (a = 0)))) : PlainAns v e := ⟨a, p, h, he⟩
set_option maxHeartbeats 1000000 in
theorem plain_any (v : ByteArray) (w : World) (hm : v.size ≤ maxLen) : Calls Tryd.prog 15 #[.string v] w fun e w' => w' = w ∧ PlainAns v e := by
  have hm' : v.size ≤ 9223372036854775807 := by unfold maxLen at hm; omega
  go_enter Tryd.func15, Tryd.ntmps15
  go_wp2_with fail
  go_loopg [3] (v.size + 1) (fun z iv V => ∃ i : Nat, iv = .int .i64 i ∧ i ≤ v.size ∧ z = v.size + 1 - i ∧ V = w ∧ ∀ x, x < i → Pu.lt (Pu.byt v x) = true)
  case atStart => exact ⟨0, rfl, Nat.zero_le _, rfl, rfl, fun x hx => by omega⟩
  case round =>
    obtain ⟨i, rfl, hi, rfl, rfl, hal⟩ := hrel
    have HA := aside_of hal
    clear hal
    by_cases hil : i < v.size
    · have hby := Pu.byt_eq hil
      have b1 : (0 : Int) ≤ (i : Int) := by omega
      have b2 : (i : Int) < (v.size : Int) := by omega
      have b3 : (v.size : Int) ≤ 9223372036854775807 := by omega
      by_cases hl : Pu.lt (Pu.byt v i) = true
      · have hl2 := hl
        simp only [Pu.lt, Bool.and_eq_true, decide_eq_true_eq] at hl2
        have HX : Aside (∀ x, x < i + 1 → Pu.lt (Pu.byt v x) = true) := fun x hx => by
          by_cases e : x = i
          · subst e; exact hl
          · exact HA.out x (by omega)
        rw [← hby] at hl2
        have e1 : ¬ (v[i].toNat : Int) < 97 := by omega
        have e2 : ¬ (v[i].toNat : Int) > 122 := by omega
        have e3 : ¬ (122 : Int) < (v[i].toNat : Int) := by omega
        clear HA hl hby
        go_wp2_with fail
        go_roundg (v.size + 1 - (i + 1))
        case measure => omega
        case rel => exact ⟨i + 1, by go_num, by omega, rfl, rfl, HX.out⟩
      · have HX : Aside (¬ Pu.Wrd v 0 0) := fun h => hl ((Pu.wrd_zero.1 h).2 i hil)
        have hl2 : Pu.byt v i < 97 ∨ 122 < Pu.byt v i := by
          refine Decidable.byContradiction fun hh => hl ?_
          simp only [Pu.lt, Bool.and_eq_true, decide_eq_true_eq]; omega
        rw [← hby] at hl2
        by_cases h97 : v[i].toNat < 97
        · have e1 : (v[i].toNat : Int) < 97 := by omega
          clear HA hl hby hl2
          go_wp2_with fail
          go_ret
          obtain ⟨a, p, ha, h0⟩ := Pu.wrd_not HX.out
          exact ⟨rfl, .mk a p ha (by simp [h0])⟩
        · have e1 : ¬ (v[i].toNat : Int) < 97 := by omega
          have e2 : (v[i].toNat : Int) > 122 := by omega
          have e3 : (122 : Int) < (v[i].toNat : Int) := by omega
          clear HA hl hby hl2
          go_wp2_with fail
          go_ret
          obtain ⟨a, p, ha, h0⟩ := Pu.wrd_not HX.out
          exact ⟨rfl, .mk a p ha (by simp [h0])⟩
    · obtain rfl : i = v.size := by omega
      by_cases h24 : v.size ≤ 24
      · have HX : Aside (Pu.Wrd v 0 0) := Pu.wrd_zero.2 ⟨h24, HA.out⟩
        have e1 : (v.size : Int) ≤ 24 := by omega
        clear HA
        go_wp2_with fail
        go_ret
        exact ⟨rfl, .mk 0 0 HX.out rfl⟩
      · have HX : Aside (¬ Pu.Wrd v 0 0) := fun h => h24 (Pu.wrd_zero.1 h).1
        have e1 : ¬ (v.size : Int) ≤ 24 := by omega
        clear HA
        go_wp2_with fail
        go_ret
        obtain ⟨a, p, ha, h0⟩ := Pu.wrd_not HX.out
        exact ⟨rfl, .mk a p ha (by simp [h0])⟩
theorem good_any (s : ByteArray) (w : World) (hm : s.size ≤ maxLen) : Calls Tryd.prog 14 #[.string s] w fun e w' => Below w.heap.size w w' ∧ ∃ (a p : Nat), Pu.Chk s a p ∧ e = .returned (.bool (decide (a = 0))) := by
  have HC := hide (rcheck_all s w hm)
  go_enter Tryd.func14, Tryd.ntmps14
  go_wp2_with fail
  refine HC.out.mono ?_
  rintro e w1 ⟨⟨a, p, rfl, hC⟩, hb⟩
  have HK := aside_of hC
  clear hC HC
  by_cases ha : a = 0
  · subst ha
    go_wp2_with fail
    go_ret
    exact ⟨hb, 0, p, HK.out, rfl⟩
  · have e1 : ((a : Int) == 0) = false := by simp; omega
    go_wp2_with fail
    go_ret
    exact ⟨hb, a, p, HK.out, by simp [ha]⟩
end Go.Proofs.YthmbbiahnfpoeaaDoor

namespace Go.Proofs.YthmbbiahnfpoeaaDoor
open Go.RowKit

theorem byt_left {a b : ByteArray} {x : Nat} (hx : x < a.size) : Pu.byt (a ++ b) x = Pu.byt a x := by
  have h1 : x < (a ++ b).size := by rw [ByteArray.size_append]; omega
  rw [← Pu.byt_eq h1, ← Pu.byt_eq hx]
  congr 1
  exact ByteArray.getElem_append_left hx

set_option maxRecDepth 100000 in
set_option maxHeartbeats 2000000 in
theorem prefixed_walk (s d u : ByteArray) (x0 x1 x2 x3 x4 : Addr) (w : World) (hs : s.size ≤ maxLen) (hd : d.size + u.size ≤ maxLen) (h : Laid w x0 x1 x2 x3 x4) (n : Apart x0 x1 x2 x3 x4) :
    Calls Tryd.prog 8 #[.string s, .string d, .string u] w fun e w' => e = .returned (.bool true) ∧ Below w.heap.size w w' := by
  have hsz : (d ++ u).size = d.size + u.size := ByteArray.size_append
  obtain ⟨m, hm⟩ := Pu.exists_cnt (d ++ u) s (Pu.rulesOf s) (d ++ u).size (Pu.parse_good s 8 0).1
  have hm1 : Pu.Cnt d s (Pu.rulesOf s) d.size (Pu.lvl d s (Pu.rulesOf s) m) := hm.cut (by omega) (fun x hx => (byt_left hx).symm)
  have HPU := hide (fun (a e x b f y n h z ga gp wa wp : Nat) (t : List UInt8) => Pu.prefixed_pure (s := s) (u := d) (v := d ++ u) (m := m) (a := a) (e := e) (x := x) (b := b) (f := f) (y := y) (n := n) (h := h) (z := z) (ga := ga) (gp := gp) (wa := wa) (wp := wp) (t := t) (by omega) (fun x hx => (byt_left hx).symm) hm)
  have HL := hide (fun V (hb : Below w.heap.size w V) => h.below hb)
  have H1 := hide (SPrefix_any s d m x0 x1 x2 x3 x4 w h n hm1)
  have H2 := hide (fun V (hb : Below w.heap.size w V) => SPrefix_any s (d ++ u) m x0 x1 x2 x3 x4 V (h.below hb) n hm)
  have H3 := hide (fun V (hb : Below w.heap.size w V) => STrees_any s (d ++ u) m x0 x1 x2 x3 x4 V (h.below hb) n hm)
  have H4 := hide (fun V => good_any s V hs)
  have H5 := hide (fun V => plain_any (d ++ u) V (by omega))
  have hsum : ¬ 9223372036854775807 < d.size + u.size := by unfold maxLen at hd; omega
  clear h n hm hm1
  go_enter Tryd.func8, Tryd.ntmps8
  go_wp2_with fail
  refine H1.out.mono ?_
  rintro e w1 ⟨hb1, a, ea, pa, rfl, hP1⟩
  have A1 := aside_of hP1
  clear hP1 H1
  go_wp2_with fail
  refine (H2.out w1 hb1).mono ?_
  rintro e w2 ⟨hq2, b, eb, pb, rfl, hP2⟩
  have hb2 := hb1.trans (hq2.mono hb1.size)
  have A2 := aside_of hP2
  clear hP2 H2
  go_wp2_with fail
  refine (H3.out w2 hb2).mono ?_
  rintro e w3 ⟨hq3, k, t, ek, pk, rfl, hP3⟩
  have hb3 := hb2.trans (hq3.mono hb2.size)
  have A3 := aside_of hP3
  clear hP3 H3
  go_wp2_with fail
  refine (H4.out w3).mono ?_
  rintro e w4 ⟨hq4, ga, gp, hG, rfl⟩
  have hb4 := hb3.trans (hq4.mono hb3.size)
  have A4 := aside_of hG
  clear hG H4
  go_wp2_with fail
  refine (H5.out w4).mono ?_
  rintro e w5 ⟨rfl, wa, wp, hW, rfl⟩
  obtain ⟨B1, B2⟩ := HPU.out a ea pa b eb pb k ek pk ga gp wa wp t A1.out A2.out A3.out A4.out hW
  have HB1 := aside_of B1
  have HB2 := aside_of B2
  have gnum := hide numP_any
  clear hW H5 A1 A2 A3 A4 HPU B1 B2 HL
  by_cases hg : ga = 0
  · by_cases hw : wa = 0
    · subst hg hw
      obtain ⟨rfl, rfl, rfl, g1, g2, g3, g4, g5⟩ := HB2.out rfl rfl
      have e1 : ¬ (a : Int) < 0 := by omega
      have e2 : ¬ (a : Int) > (d.size : Int) := by omega
      have e2' : ¬ (d.size : Int) < (a : Int) := by omega
      have e3 : ¬ (b : Int) < (a : Int) := by omega
      have e4 : ¬ (b : Int) > ((d ++ u).size : Int) := by omega
      have e4' : ¬ ((d ++ u).size : Int) < (b : Int) := by omega
      by_cases hlt : a < d.size
      · obtain ⟨rfl, rfl⟩ := g4 hlt
        have e5 : (b : Int) < (d.size : Int) := by omega
        have e6 : ((b : Int) == (b : Int)) = true := beq_self_eq_true _
        clear g4 g5 HB1 HB2
        go_wp2_with (go_at_call 11; refine (gnum.out _ _).mono ?_; rintro e w' ⟨rfl, rfl⟩)
        go_ret
        exact ⟨rfl, hb4⟩
      · have e5 : ¬ (a : Int) < (d.size : Int) := by omega
        by_cases hk : k = 0
        · subst hk
          clear g4 g5 HB1 HB2
          go_wp2_with (go_at_call 11; refine (gnum.out _ _).mono ?_; rintro e w' ⟨rfl, rfl⟩)
          go_ret
          exact ⟨rfl, hb4⟩
        · have hbv : b = (d ++ u).size := (g5 (by omega)).resolve_left hk
          have e6 : ((k : Int) == 0) = false := by simp; omega
          have e7 : ((b : Int) == (d.size : Int) + (u.size : Int)) = true := by rw [hbv, hsz]; simp
          clear g4 g5 HB1 HB2 hk hbv
          go_wp2_with (go_at_call 11; refine (gnum.out _ _).mono ?_; rintro e w' ⟨rfl, rfl⟩)
          go_ret
          exact ⟨rfl, hb4⟩
    · obtain ⟨g1, rfl, g3⟩ := HB1.out (.inr hw)
      subst hg
      have d1 : decide (wa = 0) = false := by simp [hw]
      rw [d1]
      have e1 : ((eb : Int) != 0) = true := by simp; omega
      have e2 : ((ek : Int) != 0) = true := by simp; omega
      clear HB1 HB2
      go_wp2_with (go_at_call 11; refine (gnum.out _ _).mono ?_; rintro e w' ⟨rfl, rfl⟩)
      go_ret
      exact ⟨rfl, hb4⟩
  · obtain ⟨g1, rfl, g3⟩ := HB1.out (.inl hg)
    have d1 : decide (ga = 0) = false := by simp [hg]
    have e1 : ((eb : Int) != 0) = true := by simp; omega
    have e2 : ((ek : Int) != 0) = true := by simp; omega
    clear HB1 HB2
    go_wp2_with (go_at_call 11; refine (gnum.out _ _).mono ?_; rintro e w' ⟨rfl, rfl⟩)
    go_ret
    exact ⟨rfl, hb4⟩
end Go.Proofs.YthmbbiahnfpoeaaDoor

namespace Go.Proofs.YthmbbiahnfpoeaaDoor
open Go.ChangeShapes Go.WideShapes Go.ChangeAt Go.RowKit
open Go.ChangeMaps (open_string shut_string)

set_option maxRecDepth 100000 in
theorem prefixed_contract (H : Type) (enc : TypeId × Value → H) (W : World) (base : Nat) (args : Array Value) (ds gs : List (DataW H)) (before : List MemPlace)
    (hval : ∀ (j : Nat) t v, Tryd.f8.params[j]? = some t → args[j]? = some v → Value.okWide Tryd.prog W .any base t v)
    (hW : DataW.Whole enc Tryd.prog Tryd.f8.params.toList Rows.prefixedSpec.vars false W args.toList ds gs before) (hL : laidMetH Tryd.prog laidAll W) (hz : (DataW.weightsEach Tryd.prog (Tryd.f8.params.toList ++ (OpenSpec.ofChange Rows.prefixedSpec).bare.plain.varTypes Tryd.prog) (ds ++ gs)).all (· ≤ reachBytes) = true) :
    Calls Tryd.prog 8 args W fun e W' => ∃ v, e = .returned v ∧ Rows.prefixedSpec.post enc Tryd.prog Tryd.f8 false true false false W args v W' := by
  have hW' := hW
  obtain ⟨p, q, hA0, hV, rfl, hfz, hnd⟩ := hW
  have hA : DataW.TrodAll enc Tryd.prog W 0 (fun _ => true) true Tryd.f8.params.toList args.toList ds p := hA0
  rw [Tryd.params8] at hA hval
  obtain ⟨v0, vs0, d0, ds0, p0, q0, hargs, rfl, rfl, h0, r0⟩ := trodAll_cons hA
  obtain ⟨v1, vs1, d1, ds1, p1, q1, hargs1, rfl, rfl, h1, r1⟩ := trodAll_cons r0
  obtain ⟨v2, vs2, d2, ds2, p2, q2, hargs2, rfl, rfl, h2, r2⟩ := trodAll_cons r1
  obtain ⟨rfl, rfl, rfl⟩ := trodAll_nil r2
  obtain rfl : args = #[v0, v1, v2] := by cases args; simp_all
  obtain ⟨rfl, rfl⟩ := trodVars_none hV
  obtain ⟨s0, rfl, rfl, rfl, hs0⟩ := open_string Tryd.underlying9 (hval 0 9 v0 rfl rfl) h0
  obtain ⟨s1, rfl, rfl, rfl, hs1⟩ := open_string Tryd.underlying9 (hval 1 9 v1 rfl rfl) h1
  obtain ⟨s2, rfl, rfl, rfl, hs2⟩ := open_string Tryd.underlying9 (hval 2 9 v2 rfl rfl) h2
  clear hA0
  have hz1 : (DataW.weightsEach Tryd.prog (Tryd.f8.params.toList ++ []) ([.lit (.string s0.data.toList), .lit (.string s1.data.toList), .lit (.string s2.data.toList)] ++ [])).all (· ≤ reachBytes) = true := hz
  rw [Tryd.params8] at hz1
  simp [DataW.weightsEach, DataW.weights, reachBytes] at hz1
  obtain ⟨z0, z1, z2⟩ := hz1
  have z0 := of_decide_eq_true z0
  have z1 := of_decide_eq_true z1
  have z2 := of_decide_eq_true z2
  simp only [List.append_nil] at hW'
  obtain ⟨x0, x1, x2, x3, x4, hX, n10, n20, n21, n30, n31, n32, n40, n41, n42, n43⟩ := laid_of hL
  refine (prefixed_walk s0 s1 s2 x0 x1 x2 x3 x4 W hs0 (by unfold maxLen; omega) hX ⟨n10, n20, n21, n30, n31, n32, n40, n41, n42, n43⟩).mono fun e W' ⟨he, hb⟩ => ?_
  subst he
  have e1 : Rows.prefixedSpec.fn H ([.lit (.string s0.data.toList), .lit (.string s1.data.toList), .lit (.string s2.data.toList)] ++ []) = { results := [.lit (.bool true)], args := [.lit (.string s0.data.toList), .lit (.string s1.data.toList), .lit (.string s2.data.toList)] } := by simp [Rows.prefixedSpec]
  refine ⟨_, rfl, _, _, _, [], [], [], hW', ?_, ?_, ?_, hb.frame _, fun h => by cases h⟩
  · rw [e1]; exact trodAll_mk1 (shut_bool Tryd.underlying4 true)
  · rw [e1]; exact trodAll_mk3 (shut_string Tryd.underlying9 hs0) (shut_string Tryd.underlying9 hs1) (shut_string Tryd.underlying9 hs2)
  · rw [e1]; rfl

theorem prefixed_reads (os : Os) {H : Type} (enc : TypeId × Value → H) : ∃ places, DataW.whole enc Tryd.prog ((layAll (World.holding Tryd.prog os laidIn)).forCall (fun _ _ => 0) ⟨#[], #[.string ⟨#[]⟩, .string ⟨#[]⟩, .string ⟨#[]⟩], []⟩).memory Tryd.f8.params.toList Rows.prefixedSpec.vars false #[Value.string ⟨#[]⟩, .string ⟨#[]⟩, .string ⟨#[]⟩].toList 8 = some ([.lit (.string []), .lit (.string []), .lit (.string [])], [], places) :=
  ⟨[], by kernel_rfl⟩

set_option maxRecDepth 100000 in
theorem prefixed_lifted (os : Os) (started : os.Started) (H : Type) (enc : TypeId × Value → H) (F : Stop.Interp) :
    ReturnsInHanded {} Tryd.checked os 8 .any ((OpenSpec.ofChange Rows.prefixedSpec).preRow enc Tryd.prog Tryd.f8 Rows.prefixedRow.domain false Rows.prefixedRow.laid) (((OpenSpec.ofChange Rows.prefixedSpec).at F).post enc Tryd.prog Tryd.f8 false true false false) := by
  obtain ⟨places, hx⟩ := prefixed_reads os enc
  refine returnsInHanded_of_row (C := Tryd.checked) (s := OpenSpec.ofChange Rows.prefixedSpec) own started (by kernel_rfl) Tryd.func8
    (witness_row_at (enc := enc) (C := Tryd.checked) false (layAll (World.holding Tryd.prog os laidIn)) #[.string ⟨#[]⟩, .string ⟨#[]⟩, .string ⟨#[]⟩] rfl (by kernel_rfl) (by kernel_rfl) (by kernel_rfl)
      (OpenSpec.preRow_of_cond 8 hx (by kernel_rfl) (fun k hk => by cases hk) (by kernel_rfl) (laid_met os _))) ?_
  intro W base args ds gs before hval hW _ _ hz hL _ _
  exact prefixed_contract H enc W base args ds gs before hval hW hL hz
theorem prefixed_said : Rows.PrefixedSaid :=
  OpenClaim.holds_of_cond 8 Tryd.f8 rfl rfl rfl rfl rfl rfl rfl ⟨rfl, rfl, rfl, rfl, rfl⟩ rfl rfl rfl rfl rfl (by kernel_rfl) Tryd.func8 (by kernel_rfl)
    (of_decide_eq_true (by kernel_rfl)) (by unfold Func.isWrapper; first | (rw [if_pos (by decide +kernel)]; kernel_rfl) | (rw [if_neg (by decide +kernel)]; exact ⟨rfl, rfl⟩))
    (fun os started H enc _ F => by rw [OpenClaim.pre_eq_preRow]; exact prefixed_lifted os started H enc F)
theorem prefixed_plain (f : FuncId) (fn : Func) (hf : Tryd.pinned.checked.prog.funcNamed "shift/shiftlaw.Prefixed" = some f) (hfn : Tryd.pinned.checked.prog.funcs[f]? = some fn) :
    true = Tryd.pinned.checked.prog.looks [] ∧ ∀ (j : Nat) t, fn.params[j]? = some t → Tryd.pinned.checked.prog.wantsStandIn t = false := by
  obtain rfl : f = 8 := Option.some.inj ((show Tryd.prog.funcNamed "shift/shiftlaw.Prefixed" = some 8 by kernel_rfl).symm.trans hf) |>.symm
  obtain rfl : fn = Tryd.f8 := (Option.some.inj (Tryd.func8.symm.trans hfn)).symm
  refine ⟨by kernel_rfl, fun j t ht => ?_⟩
  rw [Tryd.params8] at ht
  obtain rfl : t = 9 := by simpa using Array.mem_of_getElem? ht
  exact (show Tryd.prog.wantsStandIn 9 = false by kernel_rfl)
/-- THE CARD. -/
theorem prefixed_card : Rows.PrefixedCardSaid :=
  Claim7.holds_tied_plain_at .later [] _ _ _ _ prefixed_said (fun _ h => by cases h) (by kernel_rfl) (fun _ h => by cases h) prefixed_row_tie rfl ⟨rfl, rfl⟩ (by kernel_rfl) rfl prefixed_plain (by kernel_rfl)
end Go.Proofs.YthmbbiahnfpoeaaDoor
