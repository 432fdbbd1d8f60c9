import Derived.Test.YtdbjkcpjpmglkaaDoorRefBegs
import Derived.WalkKit
import Derived.WalkSpells
import Derived.WalkSmall
import Derived.BigQuiet
import Derived.Deep.QuietTactic
import Derived.Deep.RegionWith
import Derived.Deep.LoopGhost
import Derived.Deep.RegionHeld3
import Derived.Deep.DeepCutAuto
namespace Go.Proofs.YtdbjkcpjpmglkaaDoor
open Go.RowKit

namespace Pu
/-- The longest beginning (P5), the counts being those of height m. -/
def Prf (s v : ByteArray) (m n e p : Nat) : Prop :=
  ∃ a b, Chk s a b ∧
    if a = 0 then ∃ c d, Wrd v c d ∧
      if c = 0 then Pfx (lvl v s (rulesOf s) m) v s (rulesOf s) (byt s 0) v.size n ∧ e = 0 ∧ p = 0
      else n = 0 ∧ e = c ∧ p = d
    else n = 0 ∧ e = a ∧ p = b
theorem Prf.unique {s v : ByteArray} {m n n' e e' p p' : Nat} (h : Prf s v m n e p) (k : Prf s v m n' e' p') : n = n' ∧ e = e' ∧ p = p' := by
  obtain ⟨a, b, h1, h2⟩ := h
  obtain ⟨a', b', k1, k2⟩ := k
  obtain ⟨rfl, rfl⟩ := h1.unique k1
  split at h2
  · rename_i ha
    rw [if_pos ha] at k2
    obtain ⟨c, d, g1, g2⟩ := h2
    obtain ⟨c', d', j1, j2⟩ := k2
    obtain ⟨rfl, rfl⟩ := g1.unique j1
    split at g2
    · rename_i hc
      rw [if_pos hc] at j2
      obtain ⟨g3, rfl, rfl⟩ := g2
      obtain ⟨j3, rfl, rfl⟩ := j2
      exact ⟨Pfx.unique _ _ _ g3 j3, rfl, rfl⟩
    · rename_i hc
      rw [if_neg hc] at j2
      omega
  · rename_i ha
    rw [if_neg ha] at k2
    omega
theorem Bg.cut {u v s : ByteArray} {R : List (Nat × Nat)} {m c n : Nat} {b : Bool} (h : Bg (lvl u s R m) u s R c n b) (hv : ∀ x, x < n → byt u x = byt v x) : Bg (lvl v s R m) v s R c n b := by
  obtain ⟨G, h1, h2⟩ := h
  exact ⟨G, h1.cut hv (fun c i j h1 h2 => lvl_cut hv m c i j h1 h2), h2⟩
end Pu
theorem byt_head {v : ByteArray} {n x : Nat} (hn : n ≤ v.size) (hx : x < n) : Pu.byt (v.extract 0 n) x = Pu.byt v x := by
  have := byt_sub (s := v) (a := 0) (b := n) (k := x) hn (by omega)
  rw [Nat.zero_add] at this
  exact this
theorem size_head {v : ByteArray} {n : Nat} (hn : n ≤ v.size) : (v.extract 0 n).size = n := by simp [ByteArray.size_extract]; omega

set_option maxRecDepth 100000 in
set_option maxHeartbeats 2000000 in
theorem rPrefix_any (s v : ByteArray) (m : Nat) (w : World) (hs : s.size ≤ maxLen) (hv : v.size ≤ maxLen) (hm : Pu.Cnt v s (Pu.rulesOf s) v.size (Pu.lvl v s (Pu.rulesOf s) m)) :
    Calls Tryd.prog 19 #[.string s, .string v] w fun e w' => (∃ (n a p : Nat), e = .returned (.tuple #[.int .i64 n, .int .i64 a, .int .i64 p]) ∧ Pu.Prf s v m n a p) ∧ Below w.heap.size w w' := by
  have HC := hide (fun w => rcheck_all s w hs)
  have HW := hide (fun w => word_any v w hv)
  go_enter Tryd.func19, Tryd.ntmps19
  go_wp2_with fail
  refine (HC.out _).mono ?_
  rintro e w1 ⟨⟨a, p, rfl, hC⟩, hb1⟩
  by_cases ha : a = 0
  · subst ha
    have HCK := aside_of hC
    clear hC
    go_wp2_with fail
    refine (HW.out _).mono ?_
    rintro e w2 ⟨rfl, c, d, rfl, hWd⟩
    by_cases hc : c = 0
    · subst hc
      obtain ⟨hv24, rfl, _⟩ := wrd_ok hWd
      obtain ⟨hs50, rfl, hpo⟩ := chk_ok HCK.out
      have hgd := Pu.parse_good s 8 0
      have hsd := Pu.parse_signed s 8 0
      have hhd := Pu.parse_head s 8 0
      have HT : Hid (∀ n, Pu.Pfx (Pu.lvl v s (Pu.rulesOf s) m) v s (Pu.rulesOf s) (Pu.byt s 0) v.size n → Pu.Prf s v m n 0 0) := fun n h1 =>
        ⟨0, 0, HCK.out, by rw [if_pos rfl]; exact ⟨0, 0, hWd, by rw [if_pos rfl]; exact ⟨h1, rfl, rfl⟩⟩⟩
      have HR : Hid (∀ w, Calls Tryd.prog 17 #[.string s] w fun e w' => Below w.heap.size w w' ∧ ∃ g cap, e = .returned (.tuple #[.slice (some ⟨g, 0, none⟩) (Pu.rulesOf s).length cap, .int .i64 ↑(Pu.parse s 8 0).2.1, .bool true]) ∧ g < w'.heap.size ∧ RulesAt w' g s (Pu.rulesOf s)) := fun w => (Read_any s w hs50).mono (by
        rintro e w' ⟨hb, ⟨h, he⟩ | ⟨_, v, he, hown⟩⟩
        · rw [hpo] at h; cases h
        · refine ⟨hb, ?_⟩
          have hown' := hown
          rcases hown.2 with ⟨_, h0⟩ | ⟨g, cap, _, rfl, hbg, _⟩
          · exact absurd (List.eq_nil_of_length_eq_zero h0) (hgd.2.2 hpo)
          · exact ⟨g, cap, he, (hown'.lt g rfl).2, rulesAt_of hown'⟩)
      have hne : 0 < (Pu.rulesOf s).length := List.length_pos_iff.2 (hgd.2.2 hpo)
      have hfst := hhd hne
      obtain ⟨hG, hn8, _⟩ := hgd
      have HG : Hid (Pu.Good s (Pu.rulesOf s)) := hG
      have HS : Hid (Pu.Signed s (Pu.rulesOf s)) := hsd
      have HM := hide hm
      rw [show (Pu.parse s 8 0).1 = Pu.rulesOf s from rfl] at hn8
      have HF : Hid ((Pu.rulesOf s)[0].1 = 0) := hfst
      clear hfst hhd hG hsd hm hWd hpo HC HW
      generalize Pu.rulesOf s = R at *
      go_wp2_with fail
      refine (HR.out _).mono ?_
      rintro e w3 ⟨hb3, g, cap, rfl, hg, hRA⟩
      have hb13 : Below w.heap.size w w3 := hb1.trans (hb3.mono hb1.size)
      have HBG : Hid (∀ V k, Below w3.heap.size w3 V → k ≤ v.size → Calls Tryd.prog 33 #[.slice (some ⟨g, 0, none⟩) R.length cap, .string (v.extract 0 k)] V fun e w' => Below V.heap.size V w' ∧ ∃ b, e = .returned (.bool b) ∧ Pu.Bg (Pu.lvl v s R m) v s R (Pu.byt s 0) k b) := by
        intro V k hb hk
        have hsz := size_head hk
        have hbt := fun x (hx : x < k) => byt_head (v := v) hk hx
        have := Begins_any s (v.extract 0 k) R g cap m V (hRA.below hb hg) (Nat.lt_of_lt_of_le hg hb.size) HG.out HS.out hn8 hne (by omega) (by rw [hsz]; exact HM.out.cut hk hbt)
        refine this.mono ?_
        rintro e w' ⟨h1, b, rfl, h2⟩
        rw [HF.out, hsz] at h2
        exact ⟨h1, b, rfl, h2.cut hbt⟩
      have b24 : (v.size : Int) ≤ 24 := by omega
      clear HR hRA hb3 HM HG HS HF
      go_wp2_with fail
      go_loopg [14] (v.size + 1) (fun q nv V => ∃ k : Nat, nv = .int .i64 k ∧ k ≤ v.size ∧ q = k + 1 ∧ Below w3.heap.size w3 V ∧ ∀ p, Pu.Pfx (Pu.lvl v s R m) v s R (Pu.byt s 0) k p → Pu.Pfx (Pu.lvl v s R m) v s R (Pu.byt s 0) v.size p)
      case atStart => exact ⟨v.size, rfl, Nat.le_refl _, rfl, Below.refl _ _, fun _ h => h⟩
      case round =>
        obtain ⟨k, rfl, hk, rfl, hbV, hpf⟩ := hrel
        have HPF := aside_of hpf
        clear hpf
        have hbw := hb13.trans (hbV.mono hb13.size)
        cases k with
        | zero =>
          have HX := aside_of (HT.out 0 (HPF.out 0 rfl))
          clear HPF HBG
          go_wp2_with fail
          go_ret3
          exact ⟨⟨0, 0, 0, rfl, HX.out⟩, hbw⟩
        | succ k =>
          have HC := hide (HBG.out _ (k + 1) hbV hk)
          have k1 : (((k + 1 : Nat)) : Int) > 0 := by omega
          have k2 : (0 : Int) ≤ ((k + 1 : Nat) : Int) := by omega
          have k3 : ((k + 1 : Nat) : Int) ≤ (v.size : Int) := by omega
          generalize hkk : k + 1 = kk at *
          clear HBG
          go_wp2_with fail
          refine HC.out.mono ?_
          rintro e w4 ⟨hb4, b, rfl, hBg⟩
          have hb34 := hbV.trans (hb4.mono hbV.size)
          have hbw4 := hbw.trans (hb4.mono hbw.size)
          cases b with
          | true =>
            have HX := aside_of (HT.out kk (HPF.out kk (by rw [← hkk] at hBg ⊢; exact .inl ⟨hBg, rfl⟩)))
            clear HPF hBg HC
            go_wp2_with fail
            go_ret3
            exact ⟨⟨kk, 0, 0, rfl, HX.out⟩, hbw4⟩
          | false =>
            have HX : Aside (∀ p, Pu.Pfx (Pu.lvl v s R m) v s R (Pu.byt s 0) k p → Pu.Pfx (Pu.lvl v s R m) v s R (Pu.byt s 0) v.size p) := fun p hp => HPF.out p (by rw [← hkk] at hBg ⊢; exact .inr ⟨hBg, hp⟩)
            clear HPF hBg HC
            subst hkk
            go_wp2_with fail
            go_roundg (k + 1)
            case measure => omega
            case rel => exact ⟨k, by go_num, by omega, rfl, hb34, HX.out⟩
    · have HT : Hid (Pu.Prf s v m 0 c d) := ⟨0, p, HCK.out, by rw [if_pos rfl]; exact ⟨c, d, hWd, by rw [if_neg hc]; exact ⟨rfl, rfl, rfl⟩⟩⟩
      have e1 : ((c : Int) != 0) = true := by simp; omega
      clear hWd hc
      go_wp2_with fail
      go_ret3
      exact ⟨⟨0, c, d, rfl, HT.out⟩, hb1⟩
  · have HT : Hid (Pu.Prf s v m 0 a p) := ⟨a, p, hC, by rw [if_neg ha]; exact ⟨rfl, rfl, rfl⟩⟩
    have e1 : ((a : Int) != 0) = true := by simp; omega
    clear hC ha
    go_wp2_with fail
    go_ret3
    exact ⟨⟨0, a, p, rfl, HT.out⟩, hb1⟩
end Go.Proofs.YtdbjkcpjpmglkaaDoor
