import Derived.Test.YthmbbiahnfpoeaaDoorPfxA
import Derived.WalkKit
import Derived.WalkSpells
import Derived.WalkSmall
import Derived.BigQuiet
import Derived.Deep.QuietTactic
import Derived.Deep.RegionWith
import Derived.Deep.LoopGhost
import Derived.Deep.RegionHeld3
import Derived.Deep.DeepCutAuto
import Derived.Test.YthmbbiahnfpoeaaDoorRowRef
import Derived.Laws.Concat
import Derived.Laws.Rows
import Derived.Test.YthmbbiahnfpoeaaDoorTreesS
import Derived.Test.YthmbbiahnfpoeaaDoorPfxB
import Derived.Test.YthmbbiahnfpoeaaDoorCountsW
import Derived.Test.YthmbbiahnfpoeaaDoorWit
import Derived.ProofKit
import Derived.OpenShut
import Derived.Deep.DeepHandedRow
import Derived.Lib.LaidTab
namespace Go.Proofs.YthmbbiahnfpoeaaDoor
open Go.RowKit

namespace Pu
theorem way_name {M : Nat → Nat → Nat → Nat} {v s : ByteArray} {k a i j : Nat} (hl : ¬ lt (byt s a) = true) (h : 1 ≤ ways M v s (k + 1) a i j) : ∃ q, i ≤ q ∧ q ≤ j ∧ 1 ≤ M (byt s a) i q ∧ 1 ≤ ways M v s k (a + 1) q j := by
  simp only [ways] at h
  rw [if_neg hl] at h
  obtain ⟨q, h1, h2, h3⟩ := acc_pos _ _ h
  exact ⟨q, h1, by omega, Nat.pos_of_ne_zero (fun e => by rw [e] at h3; omega), Nat.pos_of_ne_zero (fun e => by rw [e] at h3; omega)⟩
theorem phi_pos {M : Nat → Nat → Nat → Nat} {v s : ByteArray} {R : List (Nat × Nat)} {c i j : Nat} (h : 1 ≤ phi v s R M c i j) : ∃ r ∈ R, byt s r.1 = c ∧ 1 ≤ ways M v s (r.2 - (r.1 + 2)) (r.1 + 2) i j := by
  rw [phi_acc] at h
  obtain ⟨r, _, h2, h3⟩ := acc_pos _ _ h
  have hr : r < R.length := by omega
  rw [ruleW_at hr] at h3
  split at h3
  · rename_i e; exact ⟨R[r], List.getElem_mem hr, e, h3⟩
  · omega
section
variable {N M : Nat → Nat → Nat → Nat} {v s : ByteArray} {R : List (Nat × Nat)} {n nv : Nat} {G : Nat → Nat → Bool}
/-- A row that has a piece that goes on behind place n begins with what is ahead of it. -/
theorem beg_of_ways (hM : ∀ c i j, i ≤ j → j ≤ nv → M c i j ≤ N c i j) (hG : ∀ c i j, i < n → n ≤ j → j ≤ nv → 1 ≤ M c i j → G c i = true) : ∀ k a i j, i ≤ n → n ≤ j → j ≤ nv → 1 ≤ ways M v s k a i j → beg N v s n G k a i = true
  | 0, _, i, j, h1, h2, _, h => by
    simp only [ways] at h
    split at h
    · simp only [beg, decide_eq_true_eq]; omega
    · omega
  | k + 1, a, i, j, h1, h2, h3, h => by
    by_cases e : i = n
    · simp only [beg]; rw [if_pos e]
    · by_cases hl : lt (byt s a) = true
      · obtain ⟨g1, g2, g3⟩ := way_letter hl h
        simp only [beg]
        rw [if_neg e, if_pos hl, Bool.and_eq_true, decide_eq_true_eq]
        exact ⟨g2, beg_of_ways hM hG k (a + 1) (i + 1) j (by omega) h2 h3 (by rw [← g3]; exact h)⟩
      · obtain ⟨q, g1, g2, g3, g4⟩ := way_name hl h
        simp only [beg]
        rw [if_neg e, if_neg hl]
        by_cases hq : n ≤ q
        · rw [if_pos (hG _ i q (by omega) hq (by omega) g3)]
        · split
          · rfl
          · rw [anyIn_iff]
            refine ⟨q, g1, by omega, ?_⟩
            rw [Bool.and_eq_true, decide_eq_true_eq]
            exact ⟨by have := hM (byt s a) i q g1 (by omega); omega, beg_of_ways hM hG k (a + 1) q j (by omega) h2 h3 g4⟩
theorem opens_of_lvl (hst : Stands v s R nv N) (hc : ClosedB N v s R n G) : ∀ p c i j, i < n → n ≤ j → j ≤ nv → 1 ≤ lvl v s R p c i j → G c i = true
  | 0, _, _, _, _, _, _, h => by simp only [lvl] at h; omega
  | p + 1, c, i, j, h1, h2, h3, h => by
    obtain ⟨r, hr, e, hw⟩ := phi_pos h
    refine hc c i h1 ⟨r, hr, e, ?_⟩
    exact beg_of_ways (M := lvl v s R p) (fun c i j g1 g2 => hst.le p g2 c i j (Nat.zero_le _) g1 (Nat.le_refl _)) (fun c i j g1 g2 g3 g4 => opens_of_lvl hst hc p c i j g1 g2 g3 g4) _ _ i j (by omega) h2 h3 hw
/-- A beginning of a beginning is one. -/
theorem lfp_head {m n1 : Nat} (hst : Stands v s R nv (lvl v s R m)) {G1 : Nat → Nat → Bool} (h0 : Lfp (lvl v s R m) v s R n G) (h1 : Lfp (lvl v s R m) v s R n1 G1) (hn : n ≤ n1) (hv : n1 ≤ nv) {c i : Nat} (hi : i < n) (hg : G1 c i = true) : G c i = true := by
  obtain ⟨H, hH⟩ : ∃ H : Nat → Nat → Bool, H = fun c i => if i < n then G c i else true := ⟨_, rfl⟩
  have key : ∀ k a i, i ≤ n → beg (lvl v s R m) v s n1 H k a i = true → beg (lvl v s R m) v s n G k a i = true := by
    intro k
    induction k with
    | zero => intro a i hi hb; simp only [beg, decide_eq_true_eq] at hb ⊢; omega
    | succ k ih =>
      intro a i hi hb
      by_cases e : i = n
      · simp only [beg]; rw [if_pos e]
      · simp only [beg] at hb ⊢
        rw [if_neg (by omega)] at hb
        rw [if_neg e]
        by_cases hl : lt (byt s a) = true
        · rw [if_pos hl, Bool.and_eq_true] at hb ⊢
          exact ⟨hb.1, ih (a + 1) (i + 1) (by omega) hb.2⟩
        · rw [if_neg hl] at hb ⊢
          have hHi : H (byt s a) i = G (byt s a) i := by rw [hH]; exact if_pos (by omega)
          rw [hHi] at hb
          by_cases hg : G (byt s a) i = true
          · rw [if_pos hg]
          · rw [if_neg hg] at hb ⊢
            rw [anyIn_iff] at hb ⊢
            obtain ⟨j, g1, g2, g3⟩ := hb
            rw [Bool.and_eq_true, decide_eq_true_eq] at g3
            by_cases hj : j ≤ n
            · exact ⟨j, g1, by omega, by rw [Bool.and_eq_true, decide_eq_true_eq]; exact ⟨g3.1, ih (a + 1) j hj g3.2⟩⟩
            · exact absurd (opens_of_lvl hst h0.closed m (byt s a) i j (by omega) (by omega) (by omega) g3.1) hg
  have hcl : ClosedB (lvl v s R m) v s R n1 H := fun c i hi ⟨r, hr, e, hb⟩ => by
    by_cases hin : i < n
    · rw [hH]
      show (if i < n then G c i else true) = true
      rw [if_pos hin]
      exact h0.closed c i hin ⟨r, hr, e, key _ _ i (by omega) hb⟩
    · rw [hH]
      show (if i < n then G c i else true) = true
      rw [if_neg hin]
  have := h1.under H hcl c i (by omega) hg
  rw [hH] at this
  have h2 : (if i < n then G c i else true) = true := this
  rwa [if_pos hi] at h2
end
section
variable {N : Nat → Nat → Nat → Nat} {v s : ByteArray} {R : List (Nat × Nat)} {c : Nat}
theorem Pfx.le : ∀ k p, Pfx N v s R c k p → p ≤ k
  | 0, p, h => by simp only [Pfx] at h; omega
  | k + 1, p, h => by
    simp only [Pfx] at h
    rcases h with ⟨_, rfl⟩ | ⟨_, h⟩
    · exact Nat.le_refl _
    · have := Pfx.le k p h; omega
theorem Pfx.yes : ∀ k p, Pfx N v s R c k p → 0 < p → Bg N v s R c p true
  | 0, p, h, hp => by simp only [Pfx] at h; omega
  | k + 1, p, h, hp => by
    simp only [Pfx] at h
    rcases h with ⟨h, rfl⟩ | ⟨_, h⟩
    · exact h
    · exact Pfx.yes k p h hp
theorem Pfx.no : ∀ k p, Pfx N v s R c k p → ∀ n, p < n → n ≤ k → Bg N v s R c n false
  | 0, p, h, n, h1, h2 => by omega
  | k + 1, p, h, n, h1, h2 => by
    simp only [Pfx] at h
    rcases h with ⟨_, rfl⟩ | ⟨g, h⟩
    · omega
    · by_cases e : n = k + 1
      · subst e; exact g
      · exact Pfx.no k p h n h1 (by omega)
end
theorem badL_none {v : ByteArray} : ∀ m i, badL v m i = none ↔ ∀ x, i ≤ x → x < i + m → lt (byt v x) = true
  | 0, i => ⟨fun _ x h1 h2 => by omega, fun _ => rfl⟩
  | m + 1, i => by
    simp only [badL]
    by_cases h : lt (byt v i) = true
    · rw [if_pos h, badL_none m (i + 1)]
      constructor
      · intro hh x h1 h2
        by_cases e : x = i
        · subst e; exact h
        · exact hh x (by omega) (by omega)
      · intro hh x h1 h2; exact hh x (by omega) (by omega)
    · rw [if_neg h]
      constructor
      · intro hh; cases hh
      · intro hh; exact absurd (hh i (Nat.le_refl _) (by omega)) h
theorem wrd_zero {v : ByteArray} : Wrd v 0 0 ↔ v.size ≤ 24 ∧ ∀ x, x < v.size → lt (byt v x) = true := by
  unfold Wrd
  constructor
  · intro h
    split at h
    · omega
    · split at h
      · omega
      · rename_i hb
        exact ⟨by omega, fun x hx => (badL_none _ _).1 hb x (Nat.zero_le _) (by omega)⟩
  · rintro ⟨h1, h2⟩
    rw [if_neg (by omega), (badL_none v.size 0).2 (fun x _ hx => h2 x (by omega))]
    exact ⟨rfl, rfl⟩
theorem wrd_not {v : ByteArray} (h : ¬ Wrd v 0 0) : ∃ a p, Wrd v a p ∧ a ≠ 0 := by
  by_cases h24 : 24 < v.size
  · exact ⟨1, 0, by unfold Wrd; rw [if_pos h24]; exact ⟨rfl, rfl⟩, by decide⟩
  · cases hb : badL v v.size 0 with
    | some k => exact ⟨5, k, by unfold Wrd; rw [if_neg h24, hb]; exact ⟨rfl, rfl⟩, by decide⟩
    | none => exact absurd (by unfold Wrd; rw [if_neg h24, hb]; exact ⟨rfl, rfl⟩) h
/-- What Prefixed asks. -/
theorem prefixed_pure {s u v : ByteArray} {m a e x b f y n h z ga gp wa wp : Nat} {t : List UInt8} (hu : u.size ≤ v.size) (hb : ∀ x, x < u.size → byt u x = byt v x) (hm : Cnt v s (rulesOf s) v.size (lvl v s (rulesOf s) m))
    (h1 : Prf s u m a e x) (h2 : Prf s v m b f y) (h3 : Trs s v m n t h z) (hg : Chk s ga gp) (hw : Wrd v wa wp) :
    ((ga ≠ 0 ∨ wa ≠ 0) → f ≠ 0 ∧ b = 0 ∧ h ≠ 0) ∧
    (ga = 0 → wa = 0 → e = 0 ∧ f = 0 ∧ h = 0 ∧ a ≤ u.size ∧ a ≤ b ∧ b ≤ v.size ∧ (a < u.size → b = a ∧ n = 0) ∧ (a = u.size → n = 0 ∨ b = v.size)) := by
  obtain ⟨a1, p1, c1, h1⟩ := h1
  obtain ⟨a2, p2, c2, h2⟩ := h2
  obtain ⟨a3, p3, c3, h3⟩ := h3
  obtain ⟨rfl, rfl⟩ := c1.unique hg
  obtain ⟨rfl, rfl⟩ := c2.unique c1
  obtain ⟨rfl, rfl⟩ := c3.unique c2
  by_cases ha : a3 = 0
  · rw [if_pos ha] at h1 h2 h3
    obtain ⟨d1, q1, w1, h1⟩ := h1
    obtain ⟨d2, q2, w2, h2⟩ := h2
    obtain ⟨d3, q3, w3, h3⟩ := h3
    obtain ⟨rfl, rfl⟩ := w2.unique hw
    obtain ⟨rfl, rfl⟩ := w3.unique w2
    by_cases hd : d3 = 0
    · rw [if_pos hd] at h2 h3
      subst hd
      obtain ⟨hp2, rfl, rfl⟩ := h2
      obtain ⟨hn, _, rfl, rfl⟩ := h3
      refine ⟨fun hh => by omega, fun _ _ => ?_⟩
      obtain ⟨_, rfl, _⟩ := wrd_ok hw
      obtain ⟨v24, vl⟩ := wrd_zero.1 hw
      have wu : Wrd u 0 0 := wrd_zero.2 ⟨by omega, fun x hx => by rw [hb x hx]; exact vl x (by omega)⟩
      obtain ⟨rfl, rfl⟩ := w1.unique wu
      rw [if_pos rfl] at h1
      obtain ⟨hp1, rfl, rfl⟩ := h1
      have hst : Stands v s (rulesOf s) v.size (lvl v s (rulesOf s) m) := ⟨hm.2⟩
      have cut : ∀ k r, k ≤ u.size → Bg (lvl u s (rulesOf s) m) u s (rulesOf s) (byt s 0) k r → Bg (lvl v s (rulesOf s) m) v s (rulesOf s) (byt s 0) k r := fun k r hk hB => hB.cut (fun x hx => hb x (by omega))
      have ha1 := Pfx.le _ _ hp1
      have hb1 := Pfx.le _ _ hp2
      have hab : a ≤ b := by
        refine Decidable.byContradiction fun hlt => ?_
        have t1 := cut a true (by omega) (Pfx.yes _ _ hp1 (by omega))
        have t2 := Pfx.no _ _ hp2 a (by omega) (by omega)
        exact absurd (t1.unique t2 (by omega)) (by decide)
      refine ⟨rfl, rfl, rfl, ha1, hab, hb1, fun hlt => ?_, fun heq => ?_⟩
      · obtain ⟨G0, hL0, hf0⟩ := cut u.size false (Nat.le_refl _) (Pfx.no _ _ hp1 u.size hlt (Nat.le_refl _))
        constructor
        · refine Decidable.byContradiction fun hne => ?_
          have t1 := Pfx.yes _ _ hp2 (by omega)
          by_cases hbu : b ≤ u.size
          · have t2 := cut b false hbu (Pfx.no _ _ hp1 b (by omega) hbu)
            exact absurd (t1.unique t2 (by omega)) (by decide)
          · obtain ⟨G1, hL1, hf1⟩ := t1
            have := lfp_head hst hL0 hL1 (by omega) hb1 (c := byt s 0) (i := 0) (by omega) hf1.symm
            rw [← hf0] at this; cases this
        · refine Decidable.byContradiction fun hne => ?_
          have := opens_of_lvl hst hL0.closed m (byt s 0) 0 v.size (by omega) hu (Nat.le_refl _) (by omega)
          rw [← hf0] at this; cases this
      · refine Decidable.byContradiction fun hne => ?_
        have hlt : b < v.size := by omega
        obtain ⟨G1, hL1, hf1⟩ := Pfx.no _ _ hp2 v.size hlt (Nat.le_refl _)
        have := opens_of_lvl hst hL1.closed m (byt s 0) 0 v.size (by omega) (Nat.le_refl _) (Nat.le_refl _) (by omega)
        rw [← hf1] at this; cases this
    · rw [if_neg hd] at h2 h3
      exact ⟨fun _ => by omega, fun _ h => absurd h hd⟩
  · rw [if_neg ha] at h2 h3
    exact ⟨fun _ => by omega, fun h => absurd h ha⟩
end Pu

/-- What plain answers. -/
def PlainAns (v : ByteArray) (e : Ending) : Prop := ∃ a p, Pu.Wrd v a p ∧ e = .returned (.bool (decide (a = 0)))
theorem PlainAns.mk {v : ByteArray} {e : Ending} (a p : Nat) (h : Pu.Wrd v a p) (he : e = .returned (.bool (decide (a = 0)))) : PlainAns v e := ⟨a, p, h, he⟩
set_option maxHeartbeats 1000000 in
theorem plain_any (v : ByteArray) (w : World) (hm : v.size ≤ maxLen) : Calls Tryd.prog 15 #[.string v] w fun e w' => w' = w ∧ PlainAns v e := by
  have hm' : v.size ≤ 9223372036854775807 := by unfold maxLen at hm; omega
  go_enter Tryd.func15, Tryd.ntmps15
  go_wp2_with fail
  go_loopg [3] (v.size + 1) (fun z iv V => ∃ i : Nat, iv = .int .i64 i ∧ i ≤ v.size ∧ z = v.size + 1 - i ∧ V = w ∧ ∀ x, x < i → Pu.lt (Pu.byt v x) = true)
  case atStart => exact ⟨0, rfl, Nat.zero_le _, rfl, rfl, fun x hx => by omega⟩
  case round =>
    obtain ⟨i, rfl, hi, rfl, rfl, hal⟩ := hrel
    have HA := aside_of hal
    clear hal
    by_cases hil : i < v.size
    · have hby := Pu.byt_eq hil
      have b1 : (0 : Int) ≤ (i : Int) := by omega
      have b2 : (i : Int) < (v.size : Int) := by omega
      have b3 : (v.size : Int) ≤ 9223372036854775807 := by omega
      by_cases hl : Pu.lt (Pu.byt v i) = true
      · have hl2 := hl
        simp only [Pu.lt, Bool.and_eq_true, decide_eq_true_eq] at hl2
        have HX : Aside (∀ x, x < i + 1 → Pu.lt (Pu.byt v x) = true) := fun x hx => by
          by_cases e : x = i
          · subst e; exact hl
          · exact HA.out x (by omega)
        rw [← hby] at hl2
        have e1 : ¬ (v[i].toNat : Int) < 97 := by omega
        have e2 : ¬ (v[i].toNat : Int) > 122 := by omega
        have e3 : ¬ (122 : Int) < (v[i].toNat : Int) := by omega
        clear HA hl hby
        go_wp2_with fail
        go_roundg (v.size + 1 - (i + 1))
        case measure => omega
        case rel => exact ⟨i + 1, by go_num, by omega, rfl, rfl, HX.out⟩
      · have HX : Aside (¬ Pu.Wrd v 0 0) := fun h => hl ((Pu.wrd_zero.1 h).2 i hil)
        have hl2 : Pu.byt v i < 97 ∨ 122 < Pu.byt v i := by
          refine Decidable.byContradiction fun hh => hl ?_
          simp only [Pu.lt, Bool.and_eq_true, decide_eq_true_eq]; omega
        rw [← hby] at hl2
        by_cases h97 : v[i].toNat < 97
        · have e1 : (v[i].toNat : Int) < 97 := by omega
          clear HA hl hby hl2
          go_wp2_with fail
          go_ret
          obtain ⟨a, p, ha, h0⟩ := Pu.wrd_not HX.out
          exact ⟨rfl, .mk a p ha (by simp [h0])⟩
        · have e1 : ¬ (v[i].toNat : Int) < 97 := by omega
          have e2 : (v[i].toNat : Int) > 122 := by omega
          have e3 : (122 : Int) < (v[i].toNat : Int) := by omega
          clear HA hl hby hl2
          go_wp2_with fail
          go_ret
          obtain ⟨a, p, ha, h0⟩ := Pu.wrd_not HX.out
          exact ⟨rfl, .mk a p ha (by simp [h0])⟩
    · obtain rfl : i = v.size := by omega
      by_cases h24 : v.size ≤ 24
      · have HX : Aside (Pu.Wrd v 0 0) := Pu.wrd_zero.2 ⟨h24, HA.out⟩
        have e1 : (v.size : Int) ≤ 24 := by omega
        clear HA
        go_wp2_with fail
        go_ret
        exact ⟨rfl, .mk 0 0 HX.out rfl⟩
      · have HX : Aside (¬ Pu.Wrd v 0 0) := fun h => h24 (Pu.wrd_zero.1 h).1
        have e1 : ¬ (v.size : Int) ≤ 24 := by omega
        clear HA
        go_wp2_with fail
        go_ret
        obtain ⟨a, p, ha, h0⟩ := Pu.wrd_not HX.out
        exact ⟨rfl, .mk a p ha (by simp [h0])⟩
theorem good_any (s : ByteArray) (w : World) (hm : s.size ≤ maxLen) : Calls Tryd.prog 14 #[.string s] w fun e w' => Below w.heap.size w w' ∧ ∃ (a p : Nat), Pu.Chk s a p ∧ e = .returned (.bool (decide (a = 0))) := by
  have HC := hide (rcheck_all s w hm)
  go_enter Tryd.func14, Tryd.ntmps14
  go_wp2_with fail
  refine HC.out.mono ?_
  rintro e w1 ⟨⟨a, p, rfl, hC⟩, hb⟩
  have HK := aside_of hC
  clear hC HC
  by_cases ha : a = 0
  · subst ha
    go_wp2_with fail
    go_ret
    exact ⟨hb, 0, p, HK.out, rfl⟩
  · have e1 : ((a : Int) == 0) = false := by simp; omega
    go_wp2_with fail
    go_ret
    exact ⟨hb, a, p, HK.out, by simp [ha]⟩
end Go.Proofs.YthmbbiahnfpoeaaDoor

namespace Go.Proofs.YthmbbiahnfpoeaaDoor
open Go.RowKit

namespace Pu
/-- The rule that a text's digit names. -/
def dig (t : ByteArray) (i n : Nat) : Option Nat := if i < t.size ∧ 48 ≤ byt t i ∧ byt t i - 48 < n then some (byt t i - 48) else none
/-- The word of k signs from place a on, the names' trees standing at place i of the text: it, and the place behind. -/
def rowG (s : ByteArray) (H : Nat → Nat → Option (List UInt8 × Nat)) : Nat → Nat → Nat → Option (List UInt8 × Nat)
  | 0, _, i => some ([], i)
  | k + 1, a, i =>
    if lt (byt s a) = true then (rowG s H k (a + 1) i).map (fun x => (UInt8.ofNat (byt s a) :: x.1, x.2))
    else match H (byt s a) i with
      | none => none
      | some x => (rowG s H k (a + 1) x.2).map (fun y => (x.1 ++ y.1, y.2))
/-- The word of the tree of a name whose text begins at place i. -/
def grw (s : ByteArray) (R : List (Nat × Nat)) (t : ByteArray) : Nat → Nat → Nat → Option (List UInt8 × Nat)
  | 0 => fun _ _ => none
  | f + 1 => fun c i => match dig t i R.length with
    | none => none
    | some r => match R[r]? with
      | none => none
      | some x => if byt s x.1 = c then rowG s (grw s R t f) (x.2 - (x.1 + 2)) (x.1 + 2) (i + 1) else none
theorem dig_some {t : ByteArray} {i n r : Nat} (h : dig t i n = some r) : i < t.size ∧ byt t i = 48 + r ∧ r < n := by
  unfold dig at h
  split at h
  · rename_i hh; simp only [Option.some.injEq] at h; omega
  · cases h
theorem rowG_bnd {s : ByteArray} {H : Nat → Nat → Option (List UInt8 × Nat)} {T : Nat} (hH : ∀ c i w j, H c i = some (w, j) → i ≤ T → i ≤ j ∧ j ≤ T ∧ w.length ≤ 3 * (j - i)) : ∀ k a i w j, rowG s H k a i = some (w, j) → i ≤ T → i ≤ j ∧ j ≤ T ∧ w.length ≤ k + 3 * (j - i)
  | 0, _, i, w, j, h, hi => by
    simp only [rowG, Option.some.injEq, Prod.mk.injEq] at h
    obtain ⟨rfl, rfl⟩ := h
    exact ⟨Nat.le_refl _, hi, by simp⟩
  | k + 1, a, i, w, j, h, hi => by
    simp only [rowG] at h
    split at h
    · rw [Option.map_eq_some_iff] at h
      obtain ⟨⟨w', j'⟩, h1, h2⟩ := h
      simp only [Prod.mk.injEq] at h2
      obtain ⟨rfl, rfl⟩ := h2
      have := rowG_bnd hH k (a + 1) i w' j' h1 hi
      simp only [List.length_cons]
      omega
    · split at h
      · cases h
      · rename_i x hx
        obtain ⟨w1, i1⟩ := x
        rw [Option.map_eq_some_iff] at h
        obtain ⟨⟨w', j'⟩, h1, h2⟩ := h
        simp only [Prod.mk.injEq] at h2
        obtain ⟨rfl, rfl⟩ := h2
        have b1 := hH _ _ _ _ hx hi
        have b2 := rowG_bnd hH k (a + 1) i1 w' j' h1 b1.2.1
        simp only [List.length_append]
        omega
theorem grw_bnd {s t : ByteArray} {R : List (Nat × Nat)} (hS : ∀ r ∈ R, r.2 ≤ r.1 + 5) : ∀ f c i w j, grw s R t f c i = some (w, j) → i < j ∧ j ≤ t.size ∧ w.length ≤ 3 * (j - i)
  | 0, _, _, _, _, h => by simp only [grw] at h; cases h
  | f + 1, c, i, w, j, h => by
    simp only [grw] at h
    split at h
    · cases h
    · rename_i r hr
      obtain ⟨d1, d2, d3⟩ := dig_some hr
      rw [List.getElem?_eq_getElem d3] at h
      simp only at h
      split at h
      · have := rowG_bnd (T := t.size) (fun c i w j hh _ => by have := grw_bnd hS f c i w j hh; omega) _ _ _ _ _ h (by omega)
        have h5 := hS R[r] (List.getElem_mem d3)
        omega
      · cases h
end Pu
/-- What grown hands back. -/
def gotV : Option (List UInt8 × Nat) → Value
  | none => .agg #[.string ⟨#[]⟩, .int .i64 0, .bool false]
  | some x => .agg #[.string (txt x.1), .int .i64 x.2, .bool true]
theorem rowG_sub {s : ByteArray} {H : Nat → Nat → Option (List UInt8 × Nat)} {a b : Nat} (hb : b ≤ s.size) : ∀ k a' i, a' + k ≤ b - a → Pu.rowG (sub s a b) H k a' i = Pu.rowG s H k (a + a') i
  | 0, _, _, _ => rfl
  | k + 1, a', i, h => by
    simp only [Pu.rowG]
    rw [byt_sub hb (by omega)]
    have ih := fun i => rowG_sub (H := H) (a := a) hb k (a' + 1) i (by omega)
    simp only [ih, Nat.add_assoc]
theorem txt_nil : txt [] = ⟨#[]⟩ := rfl

theorem Tryd.info40 : (Tryd.prog.info? 40).map (·.size) = some 3 := by kernel_rfl
theorem heap_set3 {V : World} {ob : Nat} {x y z a b c : Value} (h : V.heap[ob]? = some (.cells #[x, y, z] 40 (0, 0))) : (((V.setCell ⟨ob, 0, none⟩ a).setCell ⟨ob, 1, none⟩ b).setCell ⟨ob, 2, none⟩ c).heap[ob]? = some (.cells #[a, b, c] 40 (0, 0)) := by
  have h1 : (V.setCell ⟨ob, 0, none⟩ a).heap[ob]? = some (.cells #[a, y, z] 40 (0, 0)) := by
    show (V.heap.modify ob _)[ob]? = _
    rw [Array.getElem?_modify, if_pos rfl, h]; rfl
  have h2 : ((V.setCell ⟨ob, 0, none⟩ a).setCell ⟨ob, 1, none⟩ b).heap[ob]? = some (.cells #[a, b, z] 40 (0, 0)) := by
    show ((V.setCell ⟨ob, 0, none⟩ a).heap.modify ob _)[ob]? = _
    rw [Array.getElem?_modify, if_pos rfl, h1]; rfl
  show (((V.setCell ⟨ob, 0, none⟩ a).setCell ⟨ob, 1, none⟩ b).heap.modify ob _)[ob]? = _
  rw [Array.getElem?_modify, if_pos rfl, h2]; rfl
/-- What lies in memory while a rule's signs are gone through. -/
structure GrM (w V : World) (c p3 : Nat) (rt : ByteArray) : Prop where
  bel : Below w.heap.size w V
  res : V.heap[w.heap.size]? = some (.cells #[.string ⟨#[]⟩, .int .i64 0, .bool false] 40 (0, 0))
  rule : V.heap[w.heap.size + 1]? = some (.cells #[.int .u8 c, .string rt, .int .i64 p3] 43 (0, 0))
theorem GrM.start (w : World) (c p3 : Nat) (rt : ByteArray) : GrM w ((w.alloc (.cells #[.string ⟨#[]⟩, .int .i64 0, .bool false] 40)).alloc (.cells #[.int .u8 c, .string rt, .int .i64 p3] 43)) c p3 rt := by
  refine ⟨((Below.refl _ _).alloc (Nat.le_refl _) _).alloc (by simp) _, ?_, ?_⟩
  · rw [Below.heap_alloc _ _ _ (by simp)]; exact heap_alloc_new w _
  · have := heap_alloc_new (w.alloc (.cells #[.string ⟨#[]⟩, .int .i64 0, .bool false] 40)) (.cells #[.int .u8 c, .string rt, .int .i64 p3] 43)
    simpa using this
theorem GrM.below {w V V' : World} {c p3 : Nat} {rt : ByteArray} (h : GrM w V c p3 rt) (hb : Below V.heap.size V V') : GrM w V' c p3 rt :=
  ⟨h.bel.trans (hb.mono h.bel.size), by rw [hb.block _ (lt_heap h.res)]; exact h.res, by rw [hb.block _ (lt_heap h.rule)]; exact h.rule⟩
theorem GrM.fz {w V : World} {c p3 : Nat} {rt : ByteArray} (h : GrM w V c p3 rt) (o : Nat) : V.frozen? ⟨w.heap.size, o, none⟩ = false := by have := h.res; simp [World.frozen?, this]
theorem GrM.r0 {w V : World} {c p3 : Nat} {rt : ByteArray} (h : GrM w V c p3 rt) : V.cell? ⟨w.heap.size, 0, none⟩ = some (.string ⟨#[]⟩) := by have := h.res; simp [World.cell?, this]
theorem GrM.r1 {w V : World} {c p3 : Nat} {rt : ByteArray} (h : GrM w V c p3 rt) : V.cell? ⟨w.heap.size, 1, none⟩ = some (.int .i64 0) := by have := h.res; simp [World.cell?, this]
theorem GrM.r2 {w V : World} {c p3 : Nat} {rt : ByteArray} (h : GrM w V c p3 rt) : V.cell? ⟨w.heap.size, 2, none⟩ = some (.bool false) := by have := h.res; simp [World.cell?, this]
theorem GrM.t1 {w V : World} {c p3 : Nat} {rt : ByteArray} (h : GrM w V c p3 rt) : V.cell? ⟨w.heap.size + 1, 1, none⟩ = some (.string rt) := by have := h.rule; simp [World.cell?, this]
theorem one_byte {t : ByteArray} {k : Nat} (h : k < t.size) : t.extract k (k + 1) = txt [UInt8.ofNat (Pu.byt t k)] := by
  apply ByteArray.ext
  rw [ByteArray.data_extract]
  apply Array.ext
  · simp [txt]; have : t.data.size = t.size := rfl; omega
  · intro i h1 h2
    simp [txt] at h2
    subst h2
    rw [Array.getElem_extract]
    simp only [txt, Nat.add_zero, List.getElem_toArray, List.getElem_cons_zero]
    rw [← Pu.byt_eq h]
    simp only [UInt8.ofNat_toNat]
    rfl

set_option maxRecDepth 100000 in
set_option maxHeartbeats 2000000 in
theorem grown_any (s t : ByteArray) (R : List (Nat × Nat)) (g cap : Nat) (hG : Pu.Good s R) (hS : Pu.Signed s R) (hn : R.length ≤ 8) (ht : t.size ≤ 140737488355328) : ∀ (f c i : Nat) (w : World), t.size < i + f → i ≤ t.size → RulesAt w g s R → g < w.heap.size →
    Calls Tryd.prog 18 #[.slice (some ⟨g, 0, none⟩) R.length cap, .int .u8 c, .string t, .int .i64 i] w fun e w' => e = .returned (gotV (Pu.grw s R t f c i)) ∧ Below w.heap.size w w'
  | 0, c, i, w, hf, hi, _, _ => by omega
  | f + 1, c, i, w, hf, hi, hRA, hg => by
    have ih := hide (grown_any s t R g cap hG hS hn ht f)
    by_cases hd : i < t.size ∧ 48 ≤ Pu.byt t i ∧ Pu.byt t i - 48 < R.length
    · obtain ⟨h1, h2, h3⟩ := hd
      have hby := Pu.byt_eq h1
      have h256 := Pu.byt_lt t i
      obtain ⟨r, hr⟩ : ∃ r, r = Pu.byt t i - 48 := ⟨_, rfl⟩
      have hrl : r < R.length := by omega
      have hti : t[i].toNat = 48 + r := by omega
      have hmem : R[r] ∈ R := List.getElem_mem hrl
      obtain ⟨h65, h90, hr1, hr2⟩ := hG R[r] hmem
      obtain ⟨hr5, hsg⟩ := hS R[r] hmem
      have hval : Pu.grw s R t (f + 1) c i = if Pu.byt s R[r].1 = c then Pu.rowG s (Pu.grw s R t f) (R[r].2 - (R[r].1 + 2)) (R[r].1 + 2) (i + 1) else none := by
        simp only [Pu.grw, Pu.dig]
        rw [if_pos ⟨h1, h2, h3⟩, ← hr]
        simp only [List.getElem?_eq_getElem hrl]
      have b1 : (0 : Int) ≤ (i : Int) := by omega
      have b2 : (i : Int) < (t.size : Int) := by omega
      have b3 : ¬ (i : Int) ≥ (t.size : Int) := by omega
      have b4 : ¬ (t.size : Int) ≤ (i : Int) := by omega
      have b5 : ¬ (t[i].toNat : Int) < 48 := by omega
      have b7 : ¬ (t[i].toNat : Int) - 48 ≥ (R.length : Int) := by omega
      have b8 : ¬ (R.length : Int) ≤ (t[i].toNat : Int) - 48 := by omega
      have b9 : (0 : Int) ≤ (t[i].toNat : Int) - 48 := by omega
      have ba : (t[i].toNat : Int) - 48 < (R.length : Int) := by omega
      have bb : IntKind.u8.wrap ((t[i].toNat : Int) - 48) = (t[i].toNat : Int) - 48 := by rw [IntKind.wrap_u8]; omega
      have hrr : r = t[i].toNat - 48 := by omega
      have bc : (48 : Int) ≤ (t[i].toNat : Int) := by omega
      obtain ⟨f0, f1, f2⟩ := hRA r hrl
      by_cases hcn : Pu.byt s R[r].1 = c
      · rw [if_pos hcn] at hval
        rw [hcn] at f0
        have hsz := size_sub (s := s) (a := R[r].1 + 2) hr2
        have HV := aside_of hval
        have HBY : Hid (∀ k, k < R[r].2 - (R[r].1 + 2) → Pu.byt (sub s (R[r].1 + 2) R[r].2) k = Pu.byt s (R[r].1 + 2 + k)) := fun k hk => byt_sub hr2 hk
        have HSG : Hid (∀ k, k < R[r].2 - (R[r].1 + 2) → Pu.sg (Pu.byt s (R[r].1 + 2 + k)) = true) := fun k hk => hsg _ (by omega) (by omega)
        have hK3 : R[r].2 - (R[r].1 + 2) ≤ 3 := by omega
        have HBD : Hid (∀ c i w j, Pu.grw s R t f c i = some (w, j) → i < j ∧ j ≤ t.size ∧ w.length ≤ 3 * (j - i)) := Pu.grw_bnd (fun r hr => (hS r hr).1) f
        have HRA : Hid (∀ V, Below w.heap.size w V → RulesAt V g s R) := fun V hb => hRA.below hb hg
        clear hval hRA hr1 hr2 hr5 hsg hmem h65 h90 hcn hG hS h2 h3 hr hby h256
        generalize hKK : R[r].2 - (R[r].1 + 2) = K at *
        generalize hrt : sub s (R[r].1 + 2) R[r].2 = rt at *
        generalize hp3 : R[r].1 = p3 at *
        generalize ha0 : p3 + 2 = a0 at *
        clear hKK hrt hp3 ha0
        rw [hrr] at f0 f1 f2
        clear hrr hti hrl
        have hgl : g < w.heap.size := hg
        go_enter Tryd.func18, Tryd.ntmps18
        go_wp2_with fail
        have hM0 := GrM.start w c p3 rt
        generalize (w.alloc (.cells #[.string ⟨#[]⟩, .int .i64 0, .bool false] 40)).alloc (.cells #[.int .u8 ↑c, .string rt, .int .i64 ↑p3] 43) = W0 at *
        clear f0 f1 f2
        go_loopg [3, 10, 11] (K + 1) (fun z iv wv kv V => ∃ (k j : Nat) (acc : List UInt8), iv = .int .i64 j ∧ wv = .string (txt acc) ∧ kv = .int .i64 k ∧ k ≤ K ∧ z = K + 1 - k ∧ i + 1 ≤ j ∧ j ≤ t.size ∧ acc.length ≤ k + 3 * (j - (i + 1)) ∧ GrM w V c p3 rt ∧ Pu.rowG s (Pu.grw s R t f) K a0 (i + 1) = (Pu.rowG s (Pu.grw s R t f) (K - k) (a0 + k) j).map (fun y => (acc ++ y.1, y.2)))
        case atStart => exact ⟨0, i + 1, [], by go_num, rfl, rfl, Nat.zero_le _, rfl, Nat.le_refl _, h1, by simp, hM0, by simp⟩
        case round =>
          clear hM0
          obtain ⟨k, j, acc, rfl, rfl, rfl, hk, rfl, hij, hjt, hacc, hM, hro⟩ := hrel
          have HRO := aside_of hro
          clear hro
          have t1 := hM.t1
          by_cases hkK : k < K
          · have hkr : k < rt.size := by omega
            have hbk := Pu.byt_eq hkr
            have hby2 := HBY.out k hkK
            have hs2 := HSG.out k hkK
            have k1 : (0 : Int) ≤ (k : Int) := by omega
            have k2 : (k : Int) < (rt.size : Int) := by omega
            have k3 : (k : Int) + 1 ≤ (rt.size : Int) := by omega
            have k4 : (k : Int) ≤ (k : Int) + 1 := by omega
            have k5 : (k : Int) < (K : Int) := by omega
            have hstep : K - k = (K - (k + 1)) + 1 := by omega
            by_cases hl : Pu.lt (Pu.byt s (a0 + k)) = true
            · have hl2 := hl
              simp only [Pu.lt, Bool.and_eq_true, decide_eq_true_eq] at hl2
              rw [← hby2, ← hbk] at hl2
              have e1 : (rt[k].toNat : Int) ≥ 97 := by omega
              have e1' : (97 : Int) ≤ (rt[k].toNat : Int) := by omega
              have e2 : (rt[k].toNat : Int) ≤ 122 := by omega
              have HX : Aside (Pu.rowG s (Pu.grw s R t f) K a0 (i + 1) = (Pu.rowG s (Pu.grw s R t f) (K - (k + 1)) (a0 + (k + 1)) j).map (fun y => ((acc ++ [UInt8.ofNat (Pu.byt rt k)]) ++ y.1, y.2))) := by
                show _ = _
                rw [HRO.out, hstep]
                simp only [Pu.rowG]
                rw [if_pos hl, Option.map_map, hby2, Nat.add_assoc]
                congr 1
                funext y
                simp
              have hone := one_byte hkr
              have hcat : Aside (txt acc ++ rt.extract k (k + 1) = txt (acc ++ [UInt8.ofNat (Pu.byt rt k)])) := by show _ = _; rw [hone, txt_append]
              have hsum : ¬ 9223372036854775807 < (txt acc).size + (rt.extract k (k + 1)).size := by rw [hone, txt_size, txt_size]; simp; omega
              clear HRO hl hl2 hbk hby2 hs2 hone HV
              go_wp2_with fail
              go_roundg (K + 1 - (k + 1))
              case measure => omega
              case rel => exact ⟨k + 1, j, acc ++ [UInt8.ofNat (Pu.byt rt k)], rfl, by rw [← hcat.out], by go_num, by omega, rfl, hij, hjt, by simp; omega, hM, HX.out⟩
            · have hnm : Pu.nm (Pu.byt s (a0 + k)) = true := by
                simp only [Pu.sg, Bool.or_eq_true] at hs2
                exact hs2.resolve_right hl
              obtain ⟨g65, g90⟩ := (nm_iff _).1 hnm
              rw [← hby2, ← hbk] at g65 g90
              have e1 : ¬ (rt[k].toNat : Int) ≥ 97 := by omega
              have e1' : ¬ (97 : Int) ≤ (rt[k].toNat : Int) := by omega
              have hcall := ih.out rt[k].toNat j wr (by omega) hjt (HRA.out _ hM.bel) (Nat.lt_of_lt_of_le hg hM.bel.size)
              have hroN : Pu.rowG s (Pu.grw s R t f) (K - k) (a0 + k) j = (match Pu.grw s R t f rt[k].toNat j with | none => none | some x => (Pu.rowG s (Pu.grw s R t f) (K - (k + 1)) (a0 + (k + 1)) x.2).map (fun y => (x.1 ++ y.1, y.2))) := by
                rw [hstep]
                conv => lhs; unfold Pu.rowG
                rw [if_neg hl, ← hby2, ← hbk, Nat.add_assoc]
              have hbd := HBD.out rt[k].toNat j
              cases hgw : Pu.grw s R t f rt[k].toNat j with
              | none =>
                rw [hgw] at hcall hroN
                have HCL := hide hcall
                have HX : Aside (Pu.grw s R t (f + 1) c i = none) := by show _ = _; rw [HV.out, HRO.out, hroN]; rfl
                clear hcall hroN hbd hgw HRO hl hbk hby2 hs2 hnm g65 g90 HV ih
                go_wp2_with (go_at_call 18; refine HCL.out.mono ?_; rintro e w2 ⟨rfl, hb2⟩; dsimp only [gotV]; have hM2 := hM.below hb2; have r0 := hM2.r0; have r1 := hM2.r1; have r2 := hM2.r2; have z0 := hM2.fz 0; have z1 := hM2.fz 1; have z2 := hM2.fz 2; have hl2 := lt_heap hM2.res; have n1 : ¬ w2.heap.size = w.heap.size := (by omega); have n2 : ¬ w.heap.size = w2.heap.size := (by omega))
                have hblk : (((((w2.setCell ⟨w.heap.size, 0, none⟩ (.string ⟨#[]⟩)).setCell ⟨w.heap.size, 1, none⟩ (.int .i64 0)).setCell ⟨w.heap.size, 2, none⟩ (.bool false)).alloc (.cells #[.string ⟨#[]⟩, .int .i64 0, .bool false] 40))).heap[w.heap.size]? = some (.cells #[.string ⟨#[]⟩, .int .i64 0, .bool false] 40 (0, 0)) := by
                  rw [Below.heap_alloc _ _ _ (by simp; exact hl2)]; exact heap_set3 hM2.res
                have hbz := (((hM2.bel.setCell (p := ⟨w.heap.size, 0, none⟩) (Nat.le_refl _) (.string ⟨#[]⟩)).setCell (p := ⟨w.heap.size, 1, none⟩) (Nat.le_refl _) (.int .i64 0)).setCell (p := ⟨w.heap.size, 2, none⟩) (Nat.le_refl _) (.bool false)).alloc (by simp; omega) (.cells #[.string ⟨#[]⟩, .int .i64 0, .bool false] 40)
                refine bodyPost_ret (results_cell_row rfl _ _ w.heap.size 40 _ (0, 0) _ rfl hblk Tryd.underlying40 rfl Tryd.info40) rfl ?_
                exact ⟨by rw [HX.out]; rfl, hbz⟩
              | some x =>
                obtain ⟨w1, i1⟩ := x
                rw [hgw] at hcall hroN
                obtain ⟨d1, d2, d3⟩ := hbd w1 i1 hgw
                have HCL := hide hcall
                have HX : Aside (Pu.rowG s (Pu.grw s R t f) K a0 (i + 1) = (Pu.rowG s (Pu.grw s R t f) (K - (k + 1)) (a0 + (k + 1)) i1).map (fun y => ((acc ++ w1) ++ y.1, y.2))) := by
                  show _ = _
                  rw [HRO.out, hroN]
                  simp only
                  rw [Option.map_map]
                  congr 1
                  funext y
                  simp
                have hcat : Aside (txt acc ++ txt w1 = txt (acc ++ w1)) := aside_of (txt_append acc w1)
                have hsum : ¬ 9223372036854775807 < (txt acc).size + (txt w1).size := by rw [txt_size, txt_size]; omega
                clear hcall hroN hbd hgw HRO hl hbk hby2 hs2 hnm g65 g90 HV
                go_wp2_with (go_at_call 18; refine HCL.out.mono ?_; rintro e w2 ⟨rfl, hb2⟩; dsimp only [gotV])
                go_roundg (K + 1 - (k + 1))
                case measure => omega
                case rel => exact ⟨k + 1, i1, acc ++ w1, rfl, by rw [← hcat.out], by go_num, by omega, rfl, by omega, d2, by simp; omega, (hM.below hb2).below ((Below.refl _ _).alloc (Nat.le_refl _) _), HX.out⟩
          · obtain rfl : k = K := by omega
            have HX : Aside (Pu.grw s R t (f + 1) c i = some (acc, j)) := by show _ = _; rw [HV.out, HRO.out, Nat.sub_self]; simp [Pu.rowG]
            have k5 : ¬ (k : Int) < (k : Int) := by omega
            have r0 := hM.r0
            have r1 := hM.r1
            have r2 := hM.r2
            have z0 := hM.fz 0
            have z1 := hM.fz 1
            have z2 := hM.fz 2
            have hblk := hM.res
            have hbl := hM.bel
            clear HRO HV ih hM
            go_wp2_with fail
            refine bodyPost_ret (results_cell_row rfl _ _ w.heap.size 40 _ (0, 0) _ rfl (heap_set3 hblk) Tryd.underlying40 rfl Tryd.info40) rfl ?_
            exact ⟨by rw [HX.out]; rfl, ((hbl.setCell (Nat.le_refl _) _).setCell (Nat.le_refl _) _).setCell (Nat.le_refl _) _⟩
      · rw [if_neg hcn] at hval
        have HV := aside_of hval
        have e1 : ((Pu.byt s R[r].1 : Int) != (c : Int)) = true := by simp; omega
        clear hval ih hcn hRA hG hS hr5 hsg hr1 hr2 h65 h90 hmem h2 h3 hr hby h256
        generalize Pu.byt s R[r].1 = cx at *
        generalize sub s (R[r].1 + 2) R[r].2 = rt at *
        generalize R[r].1 = p3 at *
        rw [hrr] at f0 f1 f2
        clear hrr hti hrl
        go_enter Tryd.func18, Tryd.ntmps18
        go_wp2_with fail
        have hM := GrM.start w cx p3 rt
        refine bodyPost_ret (results_cell_row rfl _ _ w.heap.size 40 _ (0, 0) _ rfl hM.res Tryd.underlying40 rfl Tryd.info40) rfl ?_
        exact ⟨by rw [HV.out]; rfl, hM.bel⟩
    · have hval : Aside (Pu.grw s R t (f + 1) c i = none) := by show _ = _; simp only [Pu.grw, Pu.dig]; rw [if_neg hd]
      have b1 : (0 : Int) ≤ (i : Int) := by omega
      by_cases h1 : i < t.size
      · have hby := Pu.byt_eq h1
        have b2 : (i : Int) < (t.size : Int) := by omega
        have b3 : ¬ (i : Int) ≥ (t.size : Int) := by omega
        have b4 : ¬ (t.size : Int) ≤ (i : Int) := by omega
        by_cases h2 : Pu.byt t i < 48
        · have e1 : (t[i].toNat : Int) < 48 := by rw [hby]; omega
          clear ih hd hby hRA hG hS
          go_enter Tryd.func18, Tryd.ntmps18
          go_wp2_with fail
          refine bodyPost_ret (results_cell_row rfl _ _ w.heap.size 40 _ (0, 0) _ rfl (heap_alloc_new w _) Tryd.underlying40 rfl Tryd.info40) rfl ?_
          exact ⟨by rw [hval.out]; rfl, (Below.refl _ _).alloc (Nat.le_refl _) _⟩
        · have e1 : ¬ (t[i].toNat : Int) < 48 := by rw [hby]; omega
          have h3 : R.length ≤ Pu.byt t i - 48 := by omega
          have h256 := Pu.byt_lt t i
          have bb : IntKind.u8.wrap ((t[i].toNat : Int) - 48) = (t[i].toNat : Int) - 48 := by rw [IntKind.wrap_u8, hby]; omega
          have e2 : (t[i].toNat : Int) - 48 ≥ (R.length : Int) := by rw [hby]; omega
          have bc : (48 : Int) ≤ (t[i].toNat : Int) := by rw [hby]; omega
          have bd : (t[i].toNat : Int) ≤ 255 := by rw [hby]; omega
          have be : IntKind.i64.wrap ((t[i].toNat : Int) - 48) = (t[i].toNat : Int) - 48 := by rw [IntKind.wrap_i64]; omega
          have bf : wrap64 ((t[i].toNat : Int) - 48) = (t[i].toNat : Int) - 48 := by unfold wrap64; omega
          have e3 : (R.length : Int) ≤ (t[i].toNat : Int) - 48 := by rw [hby]; omega
          clear ih hd hby hRA hG hS h2 h3 h256
          go_enter Tryd.func18, Tryd.ntmps18
          go_wp2_with fail
          refine bodyPost_ret (results_cell_row rfl _ _ w.heap.size 40 _ (0, 0) _ rfl (heap_alloc_new w _) Tryd.underlying40 rfl Tryd.info40) rfl ?_
          exact ⟨by rw [hval.out]; rfl, (Below.refl _ _).alloc (Nat.le_refl _) _⟩
      · have b3 : (i : Int) ≥ (t.size : Int) := by omega
        have b4 : (t.size : Int) ≤ (i : Int) := by omega
        clear ih hd hRA hG hS
        go_enter Tryd.func18, Tryd.ntmps18
        go_wp2_with fail
        refine bodyPost_ret (results_cell_row rfl _ _ w.heap.size 40 _ (0, 0) _ rfl (heap_alloc_new w _) Tryd.underlying40 rfl Tryd.info40) rfl ?_
        exact ⟨by rw [hval.out]; rfl, (Below.refl _ _).alloc (Nat.le_refl _) _⟩
end Go.Proofs.YthmbbiahnfpoeaaDoor

namespace Go.Proofs.YthmbbiahnfpoeaaDoor
namespace Pu
/-- A piece of a text, as bytes. -/
def seg (v : ByteArray) (i j : Nat) : List UInt8 := (List.range' i (j - i)).map fun x => UInt8.ofNat (byt v x)
theorem seg_self (v : ByteArray) (i : Nat) : seg v i i = [] := by simp [seg]
theorem seg_cat (v : ByteArray) {i q j : Nat} (h1 : i ≤ q) (h2 : q ≤ j) : seg v i q ++ seg v q j = seg v i j := by
  unfold seg
  rw [← List.map_append, show List.range' q (j - q) = List.range' (i + 1 * (q - i)) (j - q) by rw [show i + 1 * (q - i) = q by omega], List.range'_append, show q - i + (j - q) = j - i by omega]
theorem seg_cons (v : ByteArray) {i j : Nat} (h : i < j) : UInt8.ofNat (byt v i) :: seg v (i + 1) j = seg v i j := by
  unfold seg
  rw [show j - i = (j - (i + 1)) + 1 by omega, List.range'_succ]
  rfl
theorem seg_len (v : ByteArray) (i j : Nat) : (seg v i j).length = j - i := by simp [seg]
/-- The bytes of a text from place i on are these. -/
def Has (t : ByteArray) (i : Nat) (l : List UInt8) : Prop := ∀ k (h : k < l.length), i + k < t.size ∧ byt t (i + k) = l[k].toNat
theorem Has.left {t : ByteArray} {i : Nat} {a b : List UInt8} (h : Has t i (a ++ b)) : Has t i a := fun k hk => by
  have := h k (by simp; omega)
  rwa [List.getElem_append_left hk] at this
theorem Has.right {t : ByteArray} {i : Nat} {a b : List UInt8} (h : Has t i (a ++ b)) : Has t (i + a.length) b := fun k hk => by
  have := h (a.length + k) (by simp; omega)
  rw [List.getElem_append_right (by omega)] at this
  simp only [Nat.add_sub_cancel_left] at this
  rw [Nat.add_assoc]; exact this
section
variable {v s t : ByteArray} {R : List (Nat × Nat)} {n : Nat} {N : Nat → Nat → Nat → Nat}
theorem row_replay {M : Nat → Nat → Nat → Nat} {T : Nat → Nat → Nat → List UInt8} {H : Nat → Nat → Option (List UInt8 × Nat)} {i0 j0 : Nat} (hM : ∀ c i' j', i0 ≤ i' → i' ≤ j' → j' ≤ j0 → M c i' j' ≤ N c i' j')
    (hT : ∀ c i j x, i0 ≤ i → i ≤ j → j ≤ j0 → N c i j = 1 → 1 ≤ M c i j → Has t x (T c i j) → H c x = some (seg v i j, x + (T c i j).length)) : ∀ k a i j x, i0 ≤ i → i ≤ j → j ≤ j0 → ways N v s k a i j = 1 → 1 ≤ ways M v s k a i j → Has t x (rowT N v s T k a i j) → rowG s H k a x = some (seg v i j, x + (rowT N v s T k a i j).length)
  | 0, _, i, j, x, _, _, _, h1, _, _ => by
    simp only [ways] at h1
    split at h1
    · rename_i e; subst e; simp [rowG, rowT, seg_self]
    · omega
  | k + 1, a, i, j, x, hi, hij, hj, h1, h2, hx => by
    by_cases hl : lt (byt s a) = true
    · have e1 := way_letter hl (Nat.le_of_eq h1.symm)
      have e2 := way_letter hl h2
      have hr : rowT N v s T (k + 1) a i j = rowT N v s T k (a + 1) (i + 1) j := by simp only [rowT]; rw [if_pos hl]
      rw [hr] at hx ⊢
      have ih := row_replay hM hT k (a + 1) (i + 1) j x (by omega) (by omega) hj (by rw [← e1.2.2]; exact h1) (by rw [← e2.2.2]; exact h2) hx
      simp only [rowG]
      rw [if_pos hl, ih]
      simp only [Option.map_some]
      rw [← e1.2.1, seg_cons v e1.1]
    · obtain ⟨q, hq⟩ := one_cut hl h1
      obtain ⟨g1, g2⟩ := hq.lvl hl (fun c i' j' a1 a2 a3 => hM c i' j' (by omega) a2 (by omega)) h2
      have hrow := hq.row hl T
      obtain ⟨q1, q2, q3, q4, _⟩ := hq
      rw [hrow] at hx ⊢
      have t1 := hT _ i q x hi q1 (by omega) q3 g1 hx.left
      have ih := row_replay hM hT k (a + 1) q j (x + (T (byt s a) i q).length) (by omega) q2 hj q4 g2 hx.right
      simp only [rowG]
      rw [if_neg hl, t1]
      simp only
      rw [ih]
      simp only [Option.map_some]
      rw [seg_cat v q1 q2, List.length_append, Nat.add_assoc]
/-- The text of the one tree is that of a tree, and its word is the piece. -/
theorem tree_replay (h : Stands v s R n N) (hn8 : R.length ≤ 8) : ∀ p f c i j x, p ≤ f → i ≤ j → j ≤ n → N c i j = 1 → 1 ≤ lvl v s R p c i j → Has t x (treeT N v s R p c i j) → grw s R t f c x = some (seg v i j, x + (treeT N v s R p c i j).length)
  | 0, _, _, _, _, _, _, _, _, _, hp, _ => by simp only [lvl] at hp; omega
  | p + 1, 0, _, _, _, _, hf, _, _, _, _, _ => by omega
  | p + 1, f + 1, c, i, j, x, hf, hij, hj, hN, hp, hx => by
    obtain ⟨r, hr⟩ := one_rule (by rw [h.fix c i j hij hj]; exact hN)
    have htr := hr.tree p
    rw [htr] at hx ⊢
    have h0 := hx 0 (by simp)
    have hrl := hr.1
    have e0 : byt t x = 48 + r := by
      have := h0.2
      simp only [Nat.add_zero, List.getElem_cons_zero] at this
      rw [this, UInt8.toNat_ofNat']; omega
    have hdig : dig t x R.length = some r := by
      unfold dig
      rw [if_pos ⟨by have := h0.1; omega, by omega, by omega⟩, e0, Nat.add_sub_cancel_left]
    have hx1 : Has t (x + 1) (rowR N v s (treeT N v s R p) (R[r]'hrl) i j) := by
      have := Has.right (a := [UInt8.ofNat (48 + r)]) (b := rowR N v s (treeT N v s R p) (R[r]'hrl) i j) (by simpa using hx)
      simpa using this
    simp only [grw, hdig]
    rw [List.getElem?_eq_getElem hrl]
    simp only
    rw [if_pos hr.name.1]
    have := row_replay (t := t) (T := treeT N v s R p) (H := grw s R t f) (i0 := i) (j0 := j) (h.le p hj) (fun c i' j' x a1 a2 a3 b1 b2 b3 => tree_replay h hn8 p f c i' j' x (by omega) a2 (by omega) b1 b2 b3) _ _ i j (x + 1) (Nat.le_refl _) hij (Nat.le_refl _) hr.name.2 (hr.lvl' (h.le p hj) hp) hx1
    rw [this]
    simp only [List.length_cons]
    show some (seg v i j, x + 1 + (rowR N v s (treeT N v s R p) (R[r]'hrl) i j).length) = _
    rw [show x + 1 + (rowR N v s (treeT N v s R p) (R[r]'hrl) i j).length = x + ((rowR N v s (treeT N v s R p) (R[r]'hrl) i j).length + 1) by omega]
end
end Pu
theorem has_txt (l : List UInt8) : Pu.Has (txt l) 0 l := fun k hk => by
  have h1 : 0 + k < (txt l).size := by rw [txt_size]; omega
  refine ⟨h1, ?_⟩
  rw [Nat.zero_add] at h1 ⊢
  rw [← Pu.byt_eq h1]
  rfl
theorem txt_seg (v : ByteArray) : txt (Pu.seg v 0 v.size) = v := by
  apply ByteArray.ext
  apply Array.ext
  · simp [txt, Pu.seg]
  · intro i h1 h2
    have h2' : i < v.size := h2
    simp only [txt, Pu.seg, List.getElem_toArray, List.getElem_map, List.getElem_range', Nat.one_mul, Nat.zero_add]
    rw [← Pu.byt_eq h2']
    simp only [UInt8.ofNat_toNat]
    rfl
end Go.Proofs.YthmbbiahnfpoeaaDoor

namespace Go.Proofs.YthmbbiahnfpoeaaDoor
open Go.RowKit

/-- Read, of a good grammar. -/
theorem read_good (s : ByteArray) (hs50 : s.size ≤ 50) (hpo : (Pu.parse s 8 0).2.2 = true) (w : World) : Calls Tryd.prog 17 #[.string s] w fun e w' => Below w.heap.size w w' ∧ ∃ g cap, e = .returned (.tuple #[.slice (some ⟨g, 0, none⟩) (Pu.rulesOf s).length cap, .int .i64 ↑(Pu.parse s 8 0).2.1, .bool true]) ∧ g < w'.heap.size ∧ RulesAt w' g s (Pu.rulesOf s) := (Read_any s w hs50).mono (by
  have hgd := Pu.parse_good s 8 0
  rintro e w' ⟨hb, ⟨h, he⟩ | ⟨_, v, he, hown⟩⟩
  · rw [hpo] at h; cases h
  · refine ⟨hb, ?_⟩
    have hown' := hown
    rcases hown.2 with ⟨_, h0⟩ | ⟨g, cap, _, rfl, hbg, _⟩
    · exact absurd (List.eq_nil_of_length_eq_zero h0) (hgd.2.2 hpo)
    · exact ⟨g, cap, he, (hown'.lt g rfl).2, rulesAt_of hown'⟩)

set_option maxRecDepth 100000 in
set_option maxHeartbeats 2000000 in
theorem replays_walk (s v : ByteArray) (x0 x1 x2 x3 x4 : Addr) (w : World) (hs : s.size ≤ maxLen) (hv : v.size ≤ maxLen) (h : Laid w x0 x1 x2 x3 x4) (n : Apart x0 x1 x2 x3 x4) :
    Calls Tryd.prog 5 #[.string s, .string v] w fun e w' => e = .returned (.bool true) ∧ Below w.heap.size w w' := by
  obtain ⟨m, hm⟩ := Pu.exists_cnt v s (Pu.rulesOf s) v.size (Pu.parse_good s 8 0).1
  have H1 := hide (STrees_any s v m x0 x1 x2 x3 x4 w h n hm)
  have H2 := hide (fun V (hb : Below w.heap.size w V) => SPrefix_any s v m x0 x1 x2 x3 x4 V (h.below hb) n hm)
  have H4 := hide (fun V => good_any s V hs)
  have H5 := hide (fun V => plain_any v V hv)
  have HM := hide hm
  have gnum := hide numP_any
  clear h n hm
  go_enter Tryd.func5, Tryd.ntmps5
  go_wp2_with fail
  refine H1.out.mono ?_
  rintro e w1 ⟨hb1, k, t, ek, pk, rfl, hT⟩
  have HT := hide hT
  obtain ⟨A, PA, hC, hrest⟩ := hT
  clear H1
  by_cases hA : A = 0
  · rw [if_pos hA] at hrest
    obtain ⟨c, d, hW, hrest⟩ := hrest
    by_cases hc : c = 0
    · rw [if_pos hc] at hrest
      obtain ⟨hk, ht, rfl, rfl⟩ := hrest
      subst hA hc
      obtain ⟨hv24, rfl, _⟩ := wrd_ok hW
      obtain ⟨hs50, rfl, hpo⟩ := chk_ok hC
      have hk2 : k ≤ 2 := by rw [hk]; exact Pu.lvl_two _ _ _ _ _ _ _
      have e1 : ¬ (k : Int) < 0 := by omega
      have e2 : ¬ (k : Int) > 2 := by omega
      have e2' : ¬ (2 : Int) < (k : Int) := by omega
      have HC := hide hC
      have HW := hide hW
      by_cases hk1 : k = 1
      · rw [if_pos hk1] at ht
        have hgd := Pu.parse_good s 8 0
        have hsd := Pu.parse_signed s 8 0
        have hhd := Pu.parse_head s 8 0
        have hne : 0 < (Pu.rulesOf s).length := List.length_pos_iff.2 (hgd.2.2 hpo)
        have hfst : ((Pu.rulesOf s)[0]'hne).1 = 0 := hhd hne
        have hst : Pu.Stands v s (Pu.rulesOf s) v.size (Pu.lvl v s (Pu.rulesOf s) m) := ⟨HM.out.2⟩
        have hone : Pu.lvl v s (Pu.rulesOf s) m (Pu.byt s 0) 0 v.size = 1 := by omega
        have hlen : t.length ≤ 4000000 := by rw [ht]; exact Pu.tree_short8 hst hgd.1 hsd hgd.2.1 hv24 (Nat.zero_le _) (Nat.le_refl _) hone (Nat.le_of_eq hone.symm)
        have hrep : Pu.grw s (Pu.rulesOf s) (txt t) (m + t.length + 1) (Pu.byt s 0) 0 = some (Pu.seg v 0 v.size, t.length) := by
          have := Pu.tree_replay (t := txt t) hst hgd.2.1 m (m + t.length + 1) (Pu.byt s 0) 0 v.size 0 (by omega) (Nat.zero_le _) (Nat.le_refl _) hone (Nat.le_of_eq hone.symm) (by rw [← ht]; exact has_txt t)
          rw [← ht, Nat.zero_add] at this
          exact this
        have HRD := hide (read_good s hs50 hpo)
        have HGR : Hid (∀ (V : World) (g cap : Nat), RulesAt V g s (Pu.rulesOf s) → g < V.heap.size → Calls Tryd.prog 18 #[.slice (some ⟨g, 0, none⟩) (Pu.rulesOf s).length cap, .int .u8 ↑(Pu.byt s 0), .string (txt t), .int .i64 0] V fun e w' => e = .returned (.agg #[.string v, .int .i64 ↑t.length, .bool true]) ∧ Below V.heap.size V w') := by
          intro V g cap hRA hg
          have := grown_any s (txt t) (Pu.rulesOf s) g cap hgd.1 hsd hgd.2.1 (by rw [txt_size]; omega) (m + t.length + 1) (Pu.byt s 0) 0 V (by rw [txt_size]; omega) (Nat.zero_le _) hRA hg
          rw [hrep] at this
          simp only [gotV, txt_seg] at this
          exact this
        have hF0 : Hid (∀ (V : World) (g : Nat), RulesAt V g s (Pu.rulesOf s) → V.cell? ⟨g, 0, none⟩ = some (.int .u8 ↑(Pu.byt s 0))) := by
          intro V g hRA
          have := (hRA 0 hne).1
          rw [hfst] at this
          simpa using this
        have htl : (txt t).size = t.length := txt_size t
        have b0 : (0 : Int) < ((Pu.rulesOf s).length : Int) := by omega
        subst hk1
        clear hrep hst hone hgd hsd hhd hfst ht hk HM H2 hC hW hpo
        generalize txt t = tt at *
        generalize (Pu.rulesOf s).length = RL at *
        generalize Pu.byt s 0 = c0 at *
        have e5 : ((t.length : Int) == (tt.size : Int)) = true := by rw [htl]; exact beq_self_eq_true _
        go_wp2_with fail
        refine (H4.out w1).mono ?_
        rintro e w4 ⟨hq4, ga, gp, hG, rfl⟩
        obtain ⟨rfl, rfl⟩ := hG.unique HC.out
        have hb4 := hb1.trans (hq4.mono hb1.size)
        clear hG
        go_wp2_with fail
        refine (H5.out w4).mono ?_
        rintro e w5 ⟨rfl, wa, wp, hWa, rfl⟩
        obtain ⟨rfl, rfl⟩ := hWa.unique HW.out
        clear hWa
        go_wp2_with (go_at_call 11; refine (gnum.out _ _).mono ?_; rintro e w' ⟨rfl, rfl⟩)
        refine (HRD.out _).mono ?_
        rintro e w6 ⟨hq6, g, cap, rfl, hg, hRA⟩
        have hb6 := hb4.trans (hq6.mono hb4.size)
        have f0 := hF0.out w6 g hRA
        have HGG := hide (HGR.out w6 g cap hRA hg)
        clear hRA HRD HGR
        go_wp2_with (go_at_call 18; refine HGG.out.mono ?_; rintro e w7 ⟨rfl, hq7⟩)
        go_ret
        exact ⟨rfl, (hb6.trans (hq7.mono hb6.size)).alloc (Nat.le_trans hb6.size hq7.size) _⟩
      · rw [if_neg hk1] at ht
        subst ht
        rw [txt_nil]
        have e3 : ((k : Int) != 1) = true := by simp; omega
        have HPU : Hid (∀ (a ea pa : Nat), Pu.Prf s v m a ea pa → ea = 0 ∧ (k = 0 ∨ a = v.size)) := by
          intro a ea pa hP
          have := (Pu.prefixed_pure (Nat.le_refl _) (fun _ _ => rfl) HM.out hP hP HT.out hC hW).2 rfl rfl
          obtain ⟨g1, _, _, g4, _, _, g7, g8⟩ := this
          refine ⟨g1, ?_⟩
          by_cases hlt : a < v.size
          · exact .inl (g7 hlt).2
          · exact g8 (by omega)
        clear hk HM hC hW hpo HT
        go_wp2_with fail
        refine (H4.out w1).mono ?_
        rintro e w4 ⟨hq4, ga, gp, hG, rfl⟩
        obtain ⟨rfl, rfl⟩ := hG.unique HC.out
        have hb4 := hb1.trans (hq4.mono hb1.size)
        clear hG
        go_wp2_with fail
        refine (H5.out w4).mono ?_
        rintro e w5 ⟨rfl, wa, wp, hWa, rfl⟩
        obtain ⟨rfl, rfl⟩ := hWa.unique HW.out
        clear hWa
        go_wp2_with (go_at_call 11; refine (gnum.out _ _).mono ?_; rintro e w' ⟨rfl, rfl⟩)
        refine (H2.out _ hb4).mono ?_
        rintro e w6 ⟨hq6, a, ea, pa, rfl, hP⟩
        have hb6 := hb4.trans (hq6.mono hb4.size)
        obtain ⟨rfl, hor⟩ := HPU.out a ea pa hP
        clear hP HPU H2
        by_cases hk0 : k = 0
        · subst hk0
          go_wp2_with (go_at_call 11; refine (gnum.out _ _).mono ?_; rintro e w' ⟨rfl, rfl⟩)
          go_ret
          exact ⟨rfl, hb6⟩
        · have ha := hor.resolve_left hk0
          have e4 : ((k : Int) == 0) = false := by simp; omega
          have e5 : ((a : Int) == (v.size : Int)) = true := by rw [ha]; exact beq_self_eq_true _
          clear hor ha
          go_wp2_with (go_at_call 11; refine (gnum.out _ _).mono ?_; rintro e w' ⟨rfl, rfl⟩)
          go_ret
          exact ⟨rfl, hb6⟩
    · rw [if_neg hc] at hrest
      obtain ⟨rfl, rfl, rfl, rfl⟩ := hrest
      subst hA
      rw [txt_nil]
      have HC := hide hC
      have HW := hide hW
      have e3 : ((ek : Int) != 0) = true := by simp; omega
      have d1 : decide (ek = 0) = false := by simp [hc]
      clear hC hW HT HM H2
      go_wp2_with fail
      refine (H4.out w1).mono ?_
      rintro e w4 ⟨hq4, ga, gp, hG, rfl⟩
      obtain ⟨rfl, rfl⟩ := hG.unique HC.out
      have hb4 := hb1.trans (hq4.mono hb1.size)
      clear hG
      go_wp2_with fail
      refine (H5.out w4).mono ?_
      rintro e w5 ⟨rfl, wa, wp, hWa, rfl⟩
      obtain ⟨rfl, rfl⟩ := hWa.unique HW.out
      rw [d1]
      clear hWa
      go_wp2_with (go_at_call 11; refine (gnum.out _ _).mono ?_; rintro e w' ⟨rfl, rfl⟩)
      go_ret
      exact ⟨rfl, hb4⟩
  · rw [if_neg hA] at hrest
    obtain ⟨rfl, rfl, rfl, rfl⟩ := hrest
    rw [txt_nil]
    have HC := hide hC
    have e3 : ((ek : Int) != 0) = true := by simp; omega
    have d1 : decide (ek = 0) = false := by simp [hA]
    clear hC HT HM H2
    go_wp2_with fail
    refine (H4.out w1).mono ?_
    rintro e w4 ⟨hq4, ga, gp, hG, rfl⟩
    obtain ⟨rfl, rfl⟩ := hG.unique HC.out
    have hb4 := hb1.trans (hq4.mono hb1.size)
    rw [d1]
    clear hG
    go_wp2_with fail
    refine (H5.out w4).mono ?_
    rintro e w5 ⟨rfl, wa, wp, hWa, rfl⟩
    clear hWa
    go_wp2_with (go_at_call 11; refine (gnum.out _ _).mono ?_; rintro e w' ⟨rfl, rfl⟩)
    go_ret
    exact ⟨rfl, hb4⟩
end Go.Proofs.YthmbbiahnfpoeaaDoor

namespace Go.Proofs.YthmbbiahnfpoeaaDoor
open Go.ChangeShapes Go.WideShapes Go.ChangeAt Go.RowKit
open Go.ChangeMaps (open_string shut_string)

set_option maxRecDepth 100000 in
theorem replays_contract (H : Type) (enc : TypeId × Value → H) (W : World) (base : Nat) (args : Array Value) (ds gs : List (DataW H)) (before : List MemPlace)
    (hval : ∀ (j : Nat) t v, Tryd.f5.params[j]? = some t → args[j]? = some v → Value.okWide Tryd.prog W .any base t v)
    (hW : DataW.Whole enc Tryd.prog Tryd.f5.params.toList Rows.replaysSpec.vars false W args.toList ds gs before) (hL : laidMetH Tryd.prog laidAll W) :
    Calls Tryd.prog 5 args W fun e W' => ∃ v, e = .returned v ∧ Rows.replaysSpec.post enc Tryd.prog Tryd.f5 false true false false W args v W' := by
  have hW' := hW
  obtain ⟨p, q, hA0, hV, rfl, hfz, hnd⟩ := hW
  have hA : DataW.TrodAll enc Tryd.prog W 0 (fun _ => true) true Tryd.f5.params.toList args.toList ds p := hA0
  rw [Tryd.params5] at hA hval
  obtain ⟨v0, vs0, d0, ds0, p0, q0, hargs, rfl, rfl, h0, r0⟩ := trodAll_cons hA
  obtain ⟨v1, vs1, d1, ds1, p1, q1, hargs1, rfl, rfl, h1, r1⟩ := trodAll_cons r0
  obtain ⟨rfl, rfl, rfl⟩ := trodAll_nil r1
  obtain rfl : args = #[v0, v1] := by cases args; simp_all
  obtain ⟨rfl, rfl⟩ := trodVars_none hV
  obtain ⟨s0, rfl, rfl, rfl, hs0⟩ := open_string Tryd.underlying9 (hval 0 9 v0 rfl rfl) h0
  obtain ⟨s1, rfl, rfl, rfl, hs1⟩ := open_string Tryd.underlying9 (hval 1 9 v1 rfl rfl) h1
  clear hA0
  simp only [List.append_nil] at hW'
  obtain ⟨x0, x1, x2, x3, x4, hX, n10, n20, n21, n30, n31, n32, n40, n41, n42, n43⟩ := laid_of hL
  refine (replays_walk s0 s1 x0 x1 x2 x3 x4 W hs0 hs1 hX ⟨n10, n20, n21, n30, n31, n32, n40, n41, n42, n43⟩).mono fun e W' ⟨he, hb⟩ => ?_
  subst he
  have e1 : Rows.replaysSpec.fn H ([.lit (.string s0.data.toList), .lit (.string s1.data.toList)] ++ []) = { results := [.lit (.bool true)], args := [.lit (.string s0.data.toList), .lit (.string s1.data.toList)] } := by simp [Rows.replaysSpec]
  refine ⟨_, rfl, _, _, _, [], [], [], hW', ?_, ?_, ?_, hb.frame _, fun h => by cases h⟩
  · rw [e1]; exact trodAll_mk1 (shut_bool Tryd.underlying4 true)
  · rw [e1]; exact trodAll_mk2 (shut_string Tryd.underlying9 hs0) (shut_string Tryd.underlying9 hs1)
  · rw [e1]; rfl

theorem replays_reads (os : Os) {H : Type} (enc : TypeId × Value → H) : ∃ places, DataW.whole enc Tryd.prog ((layAll (World.holding Tryd.prog os laidIn)).forCall (fun _ _ => 0) ⟨#[], #[.string ⟨#[]⟩, .string ⟨#[]⟩], []⟩).memory Tryd.f5.params.toList Rows.replaysSpec.vars false #[Value.string ⟨#[]⟩, .string ⟨#[]⟩].toList 8 = some ([.lit (.string []), .lit (.string [])], [], places) :=
  ⟨[], by kernel_rfl⟩

set_option maxRecDepth 100000 in
theorem replays_lifted (os : Os) (started : os.Started) (H : Type) (enc : TypeId × Value → H) (F : Stop.Interp) :
    ReturnsInHanded {} Tryd.checked os 5 .any ((OpenSpec.ofChange Rows.replaysSpec).preRow enc Tryd.prog Tryd.f5 Rows.replaysRow.domain false Rows.replaysRow.laid) (((OpenSpec.ofChange Rows.replaysSpec).at F).post enc Tryd.prog Tryd.f5 false true false false) := by
  obtain ⟨places, hx⟩ := replays_reads os enc
  refine returnsInHanded_of_row (C := Tryd.checked) (s := OpenSpec.ofChange Rows.replaysSpec) own started (by kernel_rfl) Tryd.func5
    (witness_row_at (enc := enc) (C := Tryd.checked) false (layAll (World.holding Tryd.prog os laidIn)) #[.string ⟨#[]⟩, .string ⟨#[]⟩] rfl (by kernel_rfl) (by kernel_rfl) (by kernel_rfl)
      (OpenSpec.preRow_of_cond 8 hx (by kernel_rfl) (fun k hk => by cases hk) (by kernel_rfl) (laid_met os _))) ?_
  intro W base args ds gs before hval hW _ _ _ hL _ _
  exact replays_contract H enc W base args ds gs before hval hW hL
theorem replays_said : Rows.ReplaysSaid :=
  OpenClaim.holds_of_cond 5 Tryd.f5 rfl rfl rfl rfl rfl rfl rfl ⟨rfl, rfl, rfl, rfl, rfl⟩ rfl rfl rfl rfl rfl (by kernel_rfl) Tryd.func5 (by kernel_rfl)
    (of_decide_eq_true (by kernel_rfl)) (by unfold Func.isWrapper; first | (rw [if_pos (by decide +kernel)]; kernel_rfl) | (rw [if_neg (by decide +kernel)]; exact ⟨rfl, rfl⟩))
    (fun os started H enc _ F => by rw [OpenClaim.pre_eq_preRow]; exact replays_lifted os started H enc F)
theorem replays_plain (f : FuncId) (fn : Func) (hf : Tryd.pinned.checked.prog.funcNamed "shift/shiftlaw.Replays" = some f) (hfn : Tryd.pinned.checked.prog.funcs[f]? = some fn) :
    true = Tryd.pinned.checked.prog.looks [] ∧ ∀ (j : Nat) t, fn.params[j]? = some t → Tryd.pinned.checked.prog.wantsStandIn t = false := by
  obtain rfl : f = 5 := Option.some.inj ((show Tryd.prog.funcNamed "shift/shiftlaw.Replays" = some 5 by kernel_rfl).symm.trans hf) |>.symm
  obtain rfl : fn = Tryd.f5 := (Option.some.inj (Tryd.func5.symm.trans hfn)).symm
  refine ⟨by kernel_rfl, fun j t ht => ?_⟩
  rw [Tryd.params5] at ht
  obtain rfl : t = 9 := by simpa using Array.mem_of_getElem? ht
  exact (show Tryd.prog.wantsStandIn 9 = false by kernel_rfl)
/-- THE CARD. -/
theorem replays_card : Rows.ReplaysCardSaid :=
  Claim7.holds_tied_plain_at .later [] _ _ _ _ replays_said (fun _ h => by cases h) (by kernel_rfl) (fun _ h => by cases h) replays_row_tie rfl ⟨rfl, rfl⟩ (by kernel_rfl) rfl replays_plain (by kernel_rfl)
end Go.Proofs.YthmbbiahnfpoeaaDoor
