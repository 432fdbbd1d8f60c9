import Derived.Test.YthmbbiahnfpoeaaDoorReadB
import Derived.Test.YthmbbiahnfpoeaaDoorCTrees
import Derived.WalkKit
import Derived.WalkSpells
import Derived.WalkSmall
import Derived.BigQuiet
import Derived.Deep.QuietTactic
import Derived.Deep.RegionWith
import Derived.Deep.LoopGhost
import Derived.Deep.RegionHeld3
import Derived.Deep.DeepCutAuto
namespace Go.Proofs.YthmbbiahnfpoeaaDoor
open Go.RowKit

set_option maxHeartbeats 1000000 in
theorem STrees_any (s v : ByteArray) (m : Nat) (x0 x1 x2 x3 x4 : Addr) (w : World) (h : Laid w x0 x1 x2 x3 x4) (n : Apart x0 x1 x2 x3 x4) (hm : Pu.Cnt v s (Pu.rulesOf s) v.size (Pu.lvl v s (Pu.rulesOf s) m)) :
    Calls Tryd.prog 12 #[.string s, .string v] w fun e w' => Below w.heap.size w w' ∧ ∃ (k : Nat) (t : List UInt8) (a p : Nat), e = .returned (.tuple #[.int .i64 k, .string (txt t), .int .i64 a, .int .i64 p]) ∧ Pu.Trs s v m k t a p := by
  have HL := hide (fun V (hb : Below w.heap.size w V) => h.below hb)
  have HR := hide (read_any s v m x0 x1 x2 x3 x4 w h hm)
  have HN := hide n
  have HM := hide hm
  clear h n hm
  go_enter Tryd.func12, Tryd.ntmps12
  go_wp2_with fail
  refine HR.out.mono ?_
  rintro e w1 ⟨hb1, a, p, hC, hans⟩
  have hL1 := HL.out _ hb1
  clear HR
  rcases hans with ⟨ha, rfl⟩ | ⟨rfl, c, d, hW, ⟨hc, rfl⟩ | ⟨rfl, hv, hpr, hcl, pb, top, base, q, g, cap, B, rfl, hP⟩⟩
  · obtain ⟨hle, hp0⟩ := chk_le hC
    have HT : Hid (Pu.Trs s v m 0 [] a p) := ⟨a, p, hC, by rw [if_neg ha]; exact ⟨rfl, rfl, rfl, rfl⟩⟩
    obtain ⟨y, hy⟩ := errV_shape (kd := kdG) (x0 := x0) (x1 := x1) (x2 := x2) (x3 := x3) (p := p) ha
    have HNU := hide (number_any kdG x0 x1 x2 x3 x4 a p hle w1 hL1 HN.out.n10 HN.out.n20 HN.out.n21 HN.out.n30 HN.out.n31 HN.out.n32)
    have HPL := hide (fun V (hb : Below w1.heap.size w1 V) => place_any kdG x0 x1 x2 x3 x4 a p hle hp0 V (hL1.below hb))
    rw [hy] at HNU HPL ⊢
    clear hy hC ha HM
    go_wp2_with (first | (go_at_call 21; refine HNU.out.mono ?_; rintro e w2 ⟨rfl, hb2⟩) | (go_at_call 22; refine (HPL.out _ hb2).mono ?_; rintro e w3 ⟨rfl, hb3⟩))
    (try simp only [Exit.inBlock, Exit.then])
    refine bodyPost_ret (results_tmp4 rfl _ _ _) rfl ?_
    exact ⟨(hb1.trans (hb2.mono hb1.size)).trans (hb3.mono (Nat.le_trans hb1.size hb2.size)), 0, [], a, p, rfl, HT.out⟩
  · obtain ⟨hle, hp0⟩ := wrd_le hW
    have HT : Hid (Pu.Trs s v m 0 [] c d) := ⟨0, p, hC, by rw [if_pos rfl]; exact ⟨c, d, hW, by rw [if_neg hc]; exact ⟨rfl, rfl, rfl, rfl⟩⟩⟩
    obtain ⟨y, hy⟩ := errW_shape (kd := kdW) (x0 := x0) (x4 := x4) (p := d) hc
    have HNU := hide (numberW_any kdW x0 x1 x2 x3 x4 c d hle w1 hL1 HN.out)
    have HPL := hide (fun V (hb : Below w1.heap.size w1 V) => placeW_any kdW x0 x1 x2 x3 x4 c d hle hp0 V (hL1.below hb))
    rw [hy] at HNU HPL ⊢
    clear hy hC hc hW HM
    go_wp2_with (first | (go_at_call 21; refine HNU.out.mono ?_; rintro e w2 ⟨rfl, hb2⟩) | (go_at_call 22; refine (HPL.out _ hb2).mono ?_; rintro e w3 ⟨rfl, hb3⟩))
    (try simp only [Exit.inBlock, Exit.then])
    refine bodyPost_ret (results_tmp4 rfl _ _ _) rfl ?_
    exact ⟨(hb1.trans (hb2.mono hb1.size)).trans (hb3.mono (Nat.le_trans hb1.size hb2.size)), 0, [], c, d, rfl, HT.out⟩
  · obtain ⟨_, rfl, _⟩ := wrd_ok hW
    obtain ⟨_, rfl, _⟩ := chk_ok hC
    have hgd := Pu.parse_good s 8 0
    have hS := Pu.parse_signed s 8 0
    have hhd := Pu.parse_head s 8 0
    have hne : 0 < (Pu.rulesOf s).length := List.length_pos_iff.2 (hgd.2.2 hpr)
    have hfst : ((Pu.rulesOf s)[0]'hne).1 = 0 := hhd hne
    have hCT := CTrees_any pb top base q g cap B v s (Pu.rulesOf s) (Pu.dist s (Pu.rulesOf s) []) m w1 hv hgd.1 hS hgd.2.1 hne (fun r hr => mem_names (Pu.has_of hr)) (in_names hcl) HM.out hP
    rw [hfst] at hCT
    have HCT := hide hCT
    have HT : Hid (∀ n t, n = Pu.lvl v s (Pu.rulesOf s) m (Pu.byt s 0) 0 v.size → t = (if n = 1 then Pu.treeT (Pu.lvl v s (Pu.rulesOf s) m) v s (Pu.rulesOf s) m (Pu.byt s 0) 0 v.size else []) → Pu.Trs s v m n t 0 0) := fun n t h1 h2 =>
      ⟨0, 0, hC, by rw [if_pos rfl]; exact ⟨0, 0, hW, by rw [if_pos rfl]; exact ⟨h1, h2, rfl, rfl⟩⟩⟩
    have HTT := aside_of (HT.out _ _ rfl rfl)
    generalize Pu.lvl v s (Pu.rulesOf s) m (Pu.byt s 0) 0 v.size = k at *
    generalize Pu.treeT (Pu.lvl v s (Pu.rulesOf s) m) v s (Pu.rulesOf s) m (Pu.byt s 0) 0 v.size = T at *
    obtain ⟨U, hU⟩ : ∃ U, U = if k = 1 then T else [] := ⟨_, rfl⟩
    rw [← hU] at HCT HTT
    clear hCT hU HT hC hW hgd hS hhd hfst hpr hcl hP HM
    go_wp2_with (go_at_call 27; refine HCT.out.mono ?_; rintro e w2 ⟨hb2, rfl⟩)
    (try simp only [Exit.inBlock, Exit.then])
    refine bodyPost_ret (results_tmp4 rfl _ _ _) rfl ?_
    exact ⟨hb1.trans (hb2.mono hb1.size), k, U, 0, 0, rfl, HTT.out⟩

theorem numC_any (n : Int) (w : World) : Calls Tryd.prog 11 #[.int .i64 n] w fun e w' => e = .returned (.int .i64 n) ∧ w' = w := by
  go_enter Tryd.func11, Tryd.ntmps11
  go_wp2
  go_ret
  exact ⟨rfl, rfl⟩
set_option maxHeartbeats 1000000 in
theorem counts_walk (s v : ByteArray) (x0 x1 x2 x3 x4 : Addr) (w : World) (hs : s.size ≤ maxLen) (hv : v.size ≤ maxLen) (h : Laid w x0 x1 x2 x3 x4) (n : Apart x0 x1 x2 x3 x4) :
    Calls Tryd.prog 4 #[.string s, .string v] w fun e w' => e = .returned (.bool true) ∧ Below w.heap.size w w' := by
  obtain ⟨m, hm⟩ := Pu.exists_cnt v s (Pu.rulesOf s) v.size (Pu.parse_good s 8 0).1
  have HP := hide (STrees_any s v m x0 x1 x2 x3 x4 w h n hm)
  have HR := hide (fun w => rTrees_any s v m w hs hv hm)
  clear h n hm
  go_enter Tryd.func4, Tryd.ntmps4
  go_wp2_with fail
  refine HP.out.mono ?_
  rintro e w1 ⟨hb1, k, t, a, p, rfl, hT⟩
  have HA := aside_of hT
  clear hT HP
  go_wp2_with fail
  refine (HR.out w1).mono ?_
  rintro e w2 ⟨⟨k2, t2, a2, p2, rfl, hT2⟩, hb2⟩
  obtain ⟨rfl, rfl, rfl, rfl⟩ := HA.out.unique hT2
  have e1 : ((k : Int) == (k : Int)) = true := beq_self_eq_true _
  have e2 : ((a : Int) == (a : Int)) = true := beq_self_eq_true _
  have e3 : ((p : Int) == (p : Int)) = true := beq_self_eq_true _
  clear HA hT2 HR
  generalize txt t = T at *
  go_wp2_with (go_at_call 11; refine (numC_any _ _).mono ?_; rintro e w' ⟨rfl, rfl⟩)
  go_ret
  exact ⟨rfl, hb1.trans (hb2.mono hb1.size)⟩
end Go.Proofs.YthmbbiahnfpoeaaDoor
