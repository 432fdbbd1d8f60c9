import Derived.Test.YthmbbiahnfpoeaaDoorTreeRef
import Derived.Test.YthmbbiahnfpoeaaDoorRefCheck
import Derived.WalkKit
import Derived.WalkSpells
import Derived.WalkSmall
import Derived.BigQuiet
import Derived.Deep.QuietTactic
import Derived.Deep.RegionWith
import Derived.Deep.LoopGhost
import Derived.Deep.RegionHeld3
import Derived.Deep.DeepCutAuto
namespace Go.Proofs.YthmbbiahnfpoeaaDoor
namespace Pu

/-- The first of m places from i on that is no letter. -/
def badL (v : ByteArray) : Nat → Nat → Option Nat
  | 0, _ => none
  | m + 1, i => if lt (byt v i) = true then badL v m (i + 1) else some i
/-- What is wrong with a word, and where. -/
def Wrd (v : ByteArray) (e p : Nat) : Prop :=
  if 24 < v.size then e = 1 ∧ p = 0 else match badL v v.size 0 with | some k => e = 5 ∧ p = k | none => e = 0 ∧ p = 0
def rulesOf (s : ByteArray) : List (Nat × Nat) := (parse s 8 0).1
/-- How many trees a word has, and the one (P4), the counts being those of height m. -/
def Trs (s v : ByteArray) (m n : Nat) (t : List UInt8) (e p : Nat) : Prop :=
  ∃ a b, Chk s a b ∧
    if a = 0 then ∃ c d, Wrd v c d ∧
      if c = 0 then n = lvl v s (rulesOf s) m (byt s 0) 0 v.size ∧ t = (if n = 1 then treeT (lvl v s (rulesOf s) m) v s (rulesOf s) m (byt s 0) 0 v.size else []) ∧ e = 0 ∧ p = 0
      else n = 0 ∧ t = [] ∧ e = c ∧ p = d
    else n = 0 ∧ t = [] ∧ e = a ∧ p = b
theorem Wrd.unique {v : ByteArray} {e p e' p' : Nat} (h : Wrd v e p) (k : Wrd v e' p') : e = e' ∧ p = p' := by
  unfold Wrd at h k
  split at h
  · rename_i hh; rw [if_pos hh] at k; omega
  · rename_i hh
    rw [if_neg hh] at k
    split at h
    · rename_i hq; rw [hq] at k; simp only at k; omega
    · rename_i hq; rw [hq] at k; simp only at k; omega
theorem Trs.unique {s v : ByteArray} {m n n' e e' p p' : Nat} {t t' : List UInt8} (h : Trs s v m n t e p) (k : Trs s v m n' t' e' p') : n = n' ∧ t = t' ∧ e = e' ∧ p = p' := by
  obtain ⟨a, b, h1, h2⟩ := h
  obtain ⟨a', b', k1, k2⟩ := k
  obtain ⟨rfl, rfl⟩ := h1.unique k1
  split at h2
  · rename_i ha
    rw [if_pos ha] at k2
    obtain ⟨c, d, g1, g2⟩ := h2
    obtain ⟨c', d', j1, j2⟩ := k2
    obtain ⟨rfl, rfl⟩ := g1.unique j1
    split at g2
    · rename_i hc
      rw [if_pos hc] at j2
      obtain ⟨rfl, rfl, rfl, rfl⟩ := g2
      obtain ⟨rfl, rfl, rfl, rfl⟩ := j2
      exact ⟨rfl, rfl, rfl, rfl⟩
    · rename_i hc
      rw [if_neg hc] at j2
      obtain ⟨rfl, rfl, rfl, rfl⟩ := g2
      obtain ⟨rfl, rfl, rfl, rfl⟩ := j2
      exact ⟨rfl, rfl, rfl, rfl⟩
  · rename_i ha
    rw [if_neg ha] at k2
    obtain ⟨rfl, rfl, rfl, rfl⟩ := h2
    obtain ⟨rfl, rfl, rfl, rfl⟩ := k2
    exact ⟨rfl, rfl, rfl, rfl⟩
/-- Some height is enough. -/
theorem exists_cnt (v s : ByteArray) (R : List (Nat × Nat)) (n : Nat) (hG : Good s R) : ∃ m, Cnt v s R n (lvl v s R m) := by
  refine Classical.byContradiction fun hno => ?_
  have step : ∀ m, room v s R n (m + 1) < room v s R n m := by
    intro m
    refine Decidable.byContradiction fun hr => ?_
    refine hno ⟨m + 1, cnt_of_seen (m := m) hG (.inr ⟨rfl, fun k i j hk hi hj _ => ?_⟩)⟩
    refine Decidable.byContradiction fun hne => hr (room_lt hk (by omega) hj hne)
  have all : ∀ m, room v s R n m + m ≤ room v s R n 0 := by
    intro m
    induction m with
    | zero => exact Nat.le_refl _
    | succ m ih => have := step m; omega
  have := all (room v s R n 0 + 1)
  omega
theorem parse_head (s : ByteArray) : ∀ k i (h : 0 < (parse s k i).1.length), ((parse s k i).1[0]'h).1 = i
  | 0, i, h => by simp [parse] at h
  | k + 1, i, h => by
    have key : ∀ l, l = (parse s (k + 1) i).1 → l ≠ [] → ∃ x r, l = (i, x) :: r := by
      intro l hl hne
      simp only [parse] at hl
      split at hl
      · split at hl
        · exact ⟨_, _, hl⟩
        · split at hl
          · exact ⟨_, _, hl⟩
          · exact absurd hl hne
      · exact absurd hl hne
    obtain ⟨x, r, e⟩ := key _ rfl (fun e => by rw [e] at h; simp at h)
    simp only [e, List.getElem_cons_zero]
end Pu
open Go.RowKit

theorem badL_step (v : ByteArray) {m i : Nat} : Pu.badL v (m + 1) i = if Pu.lt (Pu.byt v i) = true then Pu.badL v m (i + 1) else some i := rfl
set_option maxHeartbeats 1000000 in
theorem word_any (v : ByteArray) (w : World) (hm : v.size ≤ maxLen) :
    Calls Tryd.prog 28 #[.string v] w fun e w' => w' = w ∧ ∃ a p : Nat, e = .returned (.tuple #[.int .i64 a, .int .i64 p]) ∧ Pu.Wrd v a p := by
  unfold maxLen at hm
  by_cases hl : 24 < v.size
  · have h1 : (24 : Int) < (v.size : Int) := by omega
    go_enter Tryd.func28, Tryd.ntmps28
    go_wp2
    go_ret2
    exact ⟨rfl, 1, 0, rfl, by unfold Pu.Wrd; rw [if_pos hl]; exact ⟨rfl, rfl⟩⟩
  · have h1 : ¬ (24 : Int) < (v.size : Int) := by omega
    have HW : Hid (∀ a p, (match Pu.badL v v.size 0 with | some k => a = 5 ∧ p = k | none => a = 0 ∧ p = 0) → Pu.Wrd v a p) := by
      intro a p h
      unfold Pu.Wrd; rw [if_neg hl]; exact h
    go_enter Tryd.func28, Tryd.ntmps28
    go_wp2
    go_loop [4] (fun iv => ∃ i : Nat, i ≤ v.size ∧ iv = .int .i64 i ∧ Hid (Pu.badL v v.size 0 = Pu.badL v (v.size - i) i)) (fun i => v.size - (intOf i).toNat)
    case atStart => exact ⟨0, Nat.zero_le _, rfl, rfl⟩
    case round =>
      obtain ⟨i, hi, rfl, HB⟩ := hrel
      by_cases hil : i < v.size
      · have hby := Pu.byt_eq hil
        have HN := aside_of (badL_step v (m := v.size - (i + 1)) (i := i))
        rw [show v.size - (i + 1) + 1 = v.size - i by omega] at HN
        by_cases hlt : Pu.lt (Pu.byt v i) = true
        · have HX : Hid (Pu.badL v v.size 0 = Pu.badL v (v.size - (i + 1)) (i + 1)) := by
            show _ = _
            rw [HB.out, HN.out, if_pos hlt]
          rw [← hby] at hlt
          clear HB HN hby
          go_wp2_with (go_at_call 47; refine (isLetter_any _ _).mono ?_; rintro e w' ⟨rfl, rfl⟩)
          exact ⟨⟨i + 1, by omega, by go_num, HX⟩, by simp [intOf]; omega⟩
        · have HX : Hid (Pu.Wrd v 5 i) := by
            refine HW.out 5 i ?_
            rw [HB.out, HN.out, if_neg hlt]
            exact ⟨rfl, rfl⟩
          have hlt' : Pu.lt v[i].toNat = false := by rw [hby]; simpa using hlt
          clear HB HN hby hlt
          go_wp2_with (go_at_call 47; refine (isLetter_any _ _).mono ?_; rintro e w' ⟨rfl, rfl⟩)
          go_ret2
          exact ⟨rfl, 5, i, rfl, HX.out⟩
      · have HX : Hid (Pu.Wrd v 0 0) := by
          refine HW.out 0 0 ?_
          rw [HB.out, show v.size - i = 0 by omega]
          exact ⟨rfl, rfl⟩
        clear HB
        go_wp2_with fail
        go_ret2
        exact ⟨rfl, 0, 0, rfl, HX.out⟩
theorem wrd_ok {v : ByteArray} {p : Nat} (h : Pu.Wrd v 0 p) : v.size ≤ 24 ∧ p = 0 ∧ Pu.badL v v.size 0 = none := by
  unfold Pu.Wrd at h
  split at h
  · omega
  · split at h
    · omega
    · rename_i h1 _ h2; exact ⟨by omega, h.2, h2⟩
theorem chk_ok {s : ByteArray} {p : Nat} (h : Pu.Chk s 0 p) : s.size ≤ 50 ∧ p = 0 ∧ (Pu.parse s 8 0).2.2 = true := by
  unfold Pu.Chk at h
  split at h
  · omega
  · split at h
    · rename_i h1 h2
      refine ⟨by omega, ?_, h2⟩
      split at h
      · omega
      · obtain ⟨F, _, h⟩ := h
        split at h <;> omega
    · omega

theorem results_tmp4 {fn : Func} {t u x y : Tmp} (h : fn.results = #[.tmp t, .tmp u, .tmp x, .tmp y]) (tmps : Array Value) (P : Program) (w : World) :
    (results fn tmps).run P w = .ok (.tuple #[tmps.getD t undef, tmps.getD u undef, tmps.getD x undef, tmps.getD y undef]) w := by
  simp [results, h]
theorem rcheck_all (s : ByteArray) (w : World) (hm : s.size ≤ maxLen) :
    Calls Tryd.prog 10 #[.string s] w fun e w' => (∃ a p : Nat, e = .returned (.tuple #[.int .i64 a, .int .i64 p]) ∧ Pu.Chk s a p) ∧ Below w.heap.size w w' := by
  by_cases hs : s.size ≤ 50
  · exact rcheck_any s w hs
  · refine (rcheck_long s w (by omega) hm).mono ?_
    rintro e w' ⟨rfl, rfl⟩
    exact ⟨⟨1, 0, rfl, by unfold Pu.Chk; rw [if_pos (by omega)]; exact ⟨rfl, rfl⟩⟩, Below.refl _ _⟩
theorem chart_of_cnt {w : World} {cb top base m m' : Nat} {lv : Value} {v s : ByteArray} {R : List (Nat × Nat)} (h : ChartAt w cb top base v.size lv v (Pu.lvl v s R m')) (hc : Pu.Cnt v s R v.size (Pu.lvl v s R m')) (hm : Pu.Cnt v s R v.size (Pu.lvl v s R m)) : ChartAt w cb top base v.size lv v (Pu.lvl v s R m) := by
  refine ⟨h.blk, h.cube.congr fun k i j _ hi hj => ?_⟩
  by_cases hij : i ≤ j
  · exact Pu.Cnt.same hm hc _ i j hij hj
  · rw [Pu.lvl_gt (by omega), Pu.lvl_gt (by omega)]

set_option maxRecDepth 100000 in
set_option maxHeartbeats 1000000 in
theorem rTrees_any (s v : ByteArray) (m : Nat) (w : World) (hs : s.size ≤ maxLen) (hv : v.size ≤ maxLen) (hm : Pu.Cnt v s (Pu.rulesOf s) v.size (Pu.lvl v s (Pu.rulesOf s) m)) :
    Calls Tryd.prog 13 #[.string s, .string v] w fun e w' => (∃ (n : Nat) (t : List UInt8) (a p : Nat), e = .returned (.tuple #[.int .i64 n, .string (txt t), .int .i64 a, .int .i64 p]) ∧ Pu.Trs s v m n t a p) ∧ Below w.heap.size w w' := by
  have HC := hide (fun w => rcheck_all s w hs)
  have HW := hide (fun w => word_any v w hv)
  go_enter Tryd.func13, Tryd.ntmps13
  go_wp2_with fail
  refine (HC.out _).mono ?_
  rintro e w1 ⟨⟨a, p, rfl, hC⟩, hb1⟩
  by_cases ha : a = 0
  · subst ha
    have HCK := aside_of hC
    clear hC
    go_wp2_with fail
    refine (HW.out _).mono ?_
    rintro e w2 ⟨rfl, c, d, rfl, hWd⟩
    by_cases hc : c = 0
    · subst hc
      obtain ⟨hv24, rfl, _⟩ := wrd_ok hWd
      obtain ⟨hs50, rfl, hpo⟩ := chk_ok HCK.out
      have hgd := Pu.parse_good s 8 0
      have hsd := Pu.parse_signed s 8 0
      have hhd := Pu.parse_head s 8 0
      have HT : Hid (∀ n t, n = Pu.lvl v s (Pu.rulesOf s) m (Pu.byt s 0) 0 v.size → t = (if n = 1 then Pu.treeT (Pu.lvl v s (Pu.rulesOf s) m) v s (Pu.rulesOf s) m (Pu.byt s 0) 0 v.size else []) → Pu.Trs s v m n t 0 0) := fun n t h1 h2 =>
        ⟨0, 0, HCK.out, by rw [if_pos rfl]; exact ⟨0, 0, hWd, by rw [if_pos rfl]; exact ⟨h1, h2, rfl, rfl⟩⟩⟩
      have HR : Hid (∀ w, Calls Tryd.prog 17 #[.string s] w fun e w' => Below w.heap.size w w' ∧ ∃ g cap, e = .returned (.tuple #[.slice (some ⟨g, 0, none⟩) (Pu.rulesOf s).length cap, .int .i64 ↑(Pu.parse s 8 0).2.1, .bool true]) ∧ g < w'.heap.size ∧ RulesAt w' g s (Pu.rulesOf s)) := fun w => (Read_any s w hs50).mono (by
        rintro e w' ⟨hb, ⟨h, he⟩ | ⟨_, v, he, hown⟩⟩
        · rw [hpo] at h; cases h
        · refine ⟨hb, ?_⟩
          have hown' := hown
          rcases hown.2 with ⟨_, h0⟩ | ⟨g, cap, _, rfl, hbg, _⟩
          · exact absurd (List.eq_nil_of_length_eq_zero h0) (hgd.2.2 hpo)
          · exact ⟨g, cap, he, (hown'.lt g rfl).2, rulesAt_of hown'⟩)
      have hne : 0 < (Pu.rulesOf s).length := List.length_pos_iff.2 (hgd.2.2 hpo)
      have hfst := hhd hne
      obtain ⟨hG, hn8, _⟩ := hgd
      have HG : Hid (Pu.Good s (Pu.rulesOf s)) := hG
      have HS : Hid (Pu.Signed s (Pu.rulesOf s)) := hsd
      have HM := hide hm
      rw [show (Pu.parse s 8 0).1 = Pu.rulesOf s from rfl] at hn8
      have HF : Hid ((Pu.rulesOf s)[0].1 = 0) := hfst
      clear hfst hhd hG hsd hm hWd hpo HC HW
      generalize Pu.rulesOf s = R at *
      go_wp2_with fail
      refine (HR.out _).mono ?_
      rintro e w3 ⟨hb3, g, cap, rfl, hg, hRA⟩
      have HCO := hide (Count_any s v R g cap w3 hRA hg HG.out HS.out hn8 hv24)
      have HRA := hide (fun V (hb : Below w3.heap.size w3 V) => hRA.below hb hg)
      have hb13 : Below w.heap.size w w3 := hb1.trans (hb3.mono hb1.size)
      clear HR hRA hb3
      go_wp2_with fail
      refine (HCO.out).mono ?_
      rintro e w4 ⟨rfl, hb4, m', top, base, hch, hcn⟩
      have hch2 := chart_of_cnt hch hcn HM.out
      have HRF : Hid (RefAt w4 w3.heap.size top base g cap v s R (Pu.lvl v s R m)) := ⟨hch2, HRA.out _ hb4, Nat.lt_of_lt_of_le hg hb4.size⟩
      have hb14 : Below w.heap.size w w4 := hb13.trans (hb4.mono hb13.size)
      clear hch hcn HCO hb4 hb13
      generalize w3.heap.size = cb at *
      obtain ⟨h65, h90, _⟩ := HG.out R[0] (List.getElem_mem hne)
      obtain ⟨f0, _⟩ := HRF.out.ra 0 hne
      rw [HF.out] at h65 h90 f0
      have c2 := hch2.c2
      have hk0 : Pu.byt s 0 - 65 < 26 := by omega
      have d1 := hch2.cube.c1 hk0
      have d2 := hch2.cube.c2 hk0 (Nat.zero_le _)
      have d3 := hch2.cube.c3 hk0 (Nat.zero_le _) (Nat.le_refl _)
      simp only [show 65 + (Pu.byt s 0 - 65) = Pu.byt s 0 by omega] at d3
      have hN2 := Pu.lvl_two v s R m (Pu.byt s 0) 0 v.size
      have HTR : Hid (Pu.lvl v s R m (Pu.byt s 0) 0 v.size = 1 → ∀ W, Below w4.heap.size w4 W → Calls Tryd.prog 30 #[.pointer (some ⟨cb, 0, none⟩), .int .u8 ↑(Pu.byt s 0), .int .i64 0, .int .i64 v.size] W fun e w' => e = .returned (.string (txt (Pu.treeT (Pu.lvl v s R m) v s R m (Pu.byt s 0) 0 v.size))) ∧ Below W.heap.size W w') := fun h1 W hW =>
        tree_any cb top base g cap v s R (Pu.lvl v s R m) hv24 (Pu.lvl_two v s R m) ⟨HM.out.2⟩ HG.out HS.out hn8 m (Pu.byt s 0) 0 v.size W (Nat.zero_le _) (Nat.le_refl _) h1 (by omega) (HRF.out.below hW)
      clear hch2 HM HG HS HF HRF
      generalize Pu.byt s 0 = c at *
      generalize Pu.treeT (Pu.lvl v s R m) v s R m c 0 v.size = T at *
      generalize Pu.lvl v s R m c 0 v.size = x at *
      generalize tb base v.size (c - 65) = tk at *
      have b0 : (0 : Int) < (R.length : Int) := by omega
      have b5 : (v.size : Int) < (v.size : Int) + 1 := by omega
      have e65 : (65 : Int) ≤ (c : Int) := by omega
      have e90 : (c : Int) ≤ 90 := by omega
      by_cases hx : x = 1
      · subst hx
        have HTR1 := hide (HTR.out rfl)
        have HT1 := aside_of (HT.out 1 T rfl (by rw [if_pos rfl]))
        clear HTR HT
        go_wp2_with fail
        go_quiet (fail)
        go_wp2_with (go_at_call 30; refine (HTR1.out _ (by exact ⟨rfl, rfl, rfl, Nat.le_refl _, fun _ _ => rfl⟩)).mono ?_; rintro e w5 ⟨rfl, hb5⟩)
        (try simp only [Exit.inBlock, Exit.then])
        refine bodyPost_ret (results_tmp4 rfl _ _ _) rfl ?_
        have hb6 : Below w4.heap.size w4 w5 := ⟨hb5.os, hb5.tape, hb5.output, hb5.size, hb5.block⟩
        exact ⟨⟨1, T, 0, 0, rfl, HT1.out⟩, hb14.trans (hb6.mono hb14.size)⟩
      · have e1 : ((x : Int) == 1) = false := by simp; omega
        have HT1 := aside_of (HT.out x [] rfl (by rw [if_neg hx]))
        clear HTR HT hx
        go_wp2_with fail
        go_quiet (fail)
        go_wp2_with fail
        (try simp only [Exit.inBlock, Exit.then])
        refine bodyPost_ret (results_tmp4 rfl _ _ _) rfl ?_
        exact ⟨⟨x, [], 0, 0, rfl, HT1.out⟩, Go.below_drewN hb14 _⟩
    · have HT : Hid (Pu.Trs s v m 0 [] c d) := ⟨0, p, HCK.out, by rw [if_pos rfl]; exact ⟨c, d, hWd, by rw [if_neg hc]; exact ⟨rfl, rfl, rfl, rfl⟩⟩⟩
      have e1 : ((c : Int) != 0) = true := by simp; omega
      clear hWd hc
      go_wp2_with fail
      (try simp only [Exit.inBlock, Exit.then])
      refine bodyPost_ret (results_tmp4 rfl _ _ _) rfl ?_
      exact ⟨⟨0, [], c, d, rfl, HT.out⟩, hb1⟩
  · have HT : Hid (Pu.Trs s v m 0 [] a p) := ⟨a, p, hC, by rw [if_neg ha]; exact ⟨rfl, rfl, rfl, rfl⟩⟩
    have e1 : ((a : Int) != 0) = true := by simp; omega
    clear hC ha
    go_wp2_with fail
    (try simp only [Exit.inBlock, Exit.then])
    refine bodyPost_ret (results_tmp4 rfl _ _ _) rfl ?_
    exact ⟨⟨0, [], a, p, rfl, HT.out⟩, hb1⟩
end Go.Proofs.YthmbbiahnfpoeaaDoor
