import Derived.Test.YthmbbiahnfpoeaaDoorAppRow
import Derived.Test.YthmbbiahnfpoeaaDoorTreesS
import Derived.Maps.AppendAt
import Derived.WalkKit
import Derived.WalkSpells
import Derived.WalkSmall
import Derived.BigQuiet
import Derived.Deep.QuietTactic
import Derived.Deep.RegionWith
import Derived.Deep.LoopGhost
import Derived.Deep.RegionHeld3
import Derived.Deep.DeepCutAuto
namespace Go.Proofs.YthmbbiahnfpoeaaDoor
open Go.RowKit

theorem Tryd.info5 : (Tryd.prog.info? 5).map (fun i => (i.zero, i.size, i.bytes)) = some (some (.int .u8 0), 1, 1) := by kernel_rfl
theorem bys_snoc (l : List UInt8) {k : Nat} (hk : k < 8) : bys l ++ [.int .u8 (48 + (k : Int))] = bys (l ++ [UInt8.ofNat (48 + k)]) := by
  simp [bys]; omega

set_option maxRecDepth 100000 in
set_option maxHeartbeats 2000000 in
theorem appendTree_any (pb top base q g cap B : Nat) (v s : ByteArray) (R : List (Nat × Nat)) (L : List Nat) (N : Nat → Nat → Nat → Nat) (W0 : World) (hv : v.size ≤ 24) (hN : ∀ c i j, N c i j ≤ 2) (hst : Pu.Stands v s R v.size N) (hG : Pu.Good s R) (hS : Pu.Signed s R) (hn : R.length ≤ 8)
    (hLC : ∀ r ∈ R, ∀ a, r.1 + 2 ≤ a → a < r.2 → Pu.nm (Pu.byt s a) = true → Pu.byt s a ∈ L) (hP : ProgAt W0 pb top base q g cap B v s R L N) :
    ∀ (p c i j : Nat) (tv : Value) (l : List UInt8) (w : World), c < 256 → i ≤ j → j ≤ v.size → N c i j = 1 → 1 ≤ Pu.lvl v s R p c i j → Below W0.heap.size W0 w → w.ownsRow W0.heap.size 5 1 tv l.length (bys l) → l.length + (Pu.treeT N v s R p c i j).length ≤ 4000000 →
      Calls Tryd.prog 46 #[.pointer (some ⟨pb, 0, none⟩), tv, .int .u8 c, .int .i64 i, .int .i64 j] w fun e w' => ∃ tv', e = .returned tv' ∧ w'.ownsRow W0.heap.size 5 1 tv' (l ++ Pu.treeT N v s R p c i j).length (bys (l ++ Pu.treeT N v s R p c i j)) ∧ Below W0.heap.size W0 w'
  | 0, c, i, j, tv, l, w, _, _, _, _, hp, _, _, _ => by simp only [Pu.lvl] at hp; omega
  | p + 1, c, i, j, tv, l, w, hc, hij, hj, hN1, hp, hbw, hown, hlen => by
    have ih := hide (appendTree_any pb top base q g cap B v s R L N W0 hv hN hst hG hS hn hLC hP p)
    obtain ⟨r, hr⟩ := Pu.one_rule (by rw [hst.fix c i j hij hj]; exact hN1)
    have hrl := hr.1
    have hval : Pu.treeT N v s R (p + 1) c i j = UInt8.ofNat (48 + r) :: Pu.rowR N v s (Pu.treeT N v s R p) R[r] i j := hr.tree p
    have hway : 1 ≤ Pu.wayR (Pu.lvl v s R p) v s R[r] i j := hr.lvl' (hst.le p hj) hp
    have hnm : Pu.byt s R[r].1 = c := hr.name.1
    have hw1 : Pu.wayR N v s R[r] i j = 1 := hr.name.2
    have hoth := hr.2.2
    clear hr
    rw [hval] at hlen ⊢
    have hlen' : (l ++ [UInt8.ofNat (48 + r)]).length + (Pu.rowR N v s (Pu.treeT N v s R p) R[r] i j).length ≤ 4000000 := by
      simp only [List.length_append, List.length_cons, List.length_nil] at hlen ⊢; omega
    have hcons : l ++ UInt8.ofNat (48 + r) :: Pu.rowR N v s (Pu.treeT N v s R p) R[r] i j = (l ++ [UInt8.ofNat (48 + r)]) ++ Pu.rowR N v s (Pu.treeT N v s R p) R[r] i j := by simp
    rw [hcons]
    have HTR : Hid (∀ tv w, Below W0.heap.size W0 w → w.ownsRow W0.heap.size 5 1 tv (l ++ [UInt8.ofNat (48 + r)]).length (bys (l ++ [UInt8.ofNat (48 + r)])) → Calls Tryd.prog 74 #[.pointer (some ⟨pb, 0, none⟩), tv, .string (sub s (R[r].1 + 2) R[r].2), .int .i64 i, .int .i64 j] w fun e w' => ∃ tv', e = .returned tv' ∧
        w'.ownsRow W0.heap.size 5 1 tv' ((l ++ [UInt8.ofNat (48 + r)]) ++ Pu.rowR N v s (Pu.treeT N v s R p) R[r] i j).length (bys ((l ++ [UInt8.ofNat (48 + r)]) ++ Pu.rowR N v s (Pu.treeT N v s R p) R[r] i j)) ∧ Below W0.heap.size W0 w') := fun tv w hbw ho => by
      obtain ⟨h65, h90, hr1, hr2⟩ := hG R[r] (List.getElem_mem hrl)
      obtain ⟨hr5, hsg⟩ := hS R[r] (List.getElem_mem hrl)
      have hsz := size_sub (s := s) (a := R[r].1 + 2) hr2
      have hrs := row_sub (N := N) (T := Pu.treeT N v s R p) (v := v) (a := R[r].1 + 2) hr2 (R[r].2 - (R[r].1 + 2)) 0 i j (by omega)
      have := appendRow_any pb top base q g cap B v s R L N (Pu.lvl v s R p) (Pu.treeT N v s R p) W0.heap.size 4000000 (fun w => Below W0.heap.size W0 w) hv hN (fun c i j a1 a2 => hst.le p a2 c i j (Nat.zero_le _) a1 (Nat.le_refl _)) (fun _ d a => Go.below_drewN a d) (fun _ a => hP.below a)
        (fun c i j tv l w a1 a2 a3 a4 a5 a6 a7 a8 => ih.out c i j tv l w a1 a2 a3 a4 a5 a6 a7 a8) (sub s (R[r].1 + 2) R[r].2) i j tv (l ++ [UInt8.ofNat (48 + r)]) w (by omega) (fun a ha => by rw [hsz] at ha; rw [byt_sub hr2 ha]; exact hsg _ (by omega) (by omega)) (fun a ha => by rw [hsz] at ha; rw [byt_sub hr2 ha]; exact hLC _ (List.getElem_mem hrl) _ (by omega) (by omega)) hij hj
        (by rw [hsz, ways_sub hr2 _ _ _ _ (by omega)]; exact hw1) (by rw [hsz, ways_sub hr2 _ _ _ _ (by omega)]; exact hway) hbw ho (by rw [hsz, hrs]; exact hlen')
      rw [hsz, hrs] at this
      exact this
    have HFR : Hid (∀ r' (hl : r' < R.length) W, Below W0.heap.size W0 W → Calls Tryd.prog 73 #[.pointer (some ⟨pb, 0, none⟩), .string (sub s (R[r'].1 + 2) R[r'].2), .int .i64 i, .int .i64 j] W fun e w' => e = .returned (.int .i64 ↑(Pu.wayR N v s R[r'] i j)) ∧ ∃ d, w' = W.drewN d) := fun r' hl W hW => by
      obtain ⟨h65, h90, hr1, hr2⟩ := hG R[r'] (List.getElem_mem hl)
      obtain ⟨hr5, hsg⟩ := hS R[r'] (List.getElem_mem hl)
      have hsz := size_sub (s := s) (a := R[r'].1 + 2) hr2
      have := rows_any pb top base q g cap B v s R L N hv hN (R[r'].2 - (R[r'].1 + 2)) (sub s (R[r'].1 + 2) R[r'].2) i j W hsz (by omega) (fun a ha => by rw [hsz] at ha; rw [byt_sub hr2 ha]; exact hLC _ (List.getElem_mem hl) _ (by omega) (by omega)) hij hj (hP.below hW)
      rw [rowsP_sub hr2 _ _ _ _ (by omega), Nat.add_zero, Pu.rowsP_eq hN _ _ _ _ hij (fun a' h1 h2 => hsg a' h1 (by omega))] at this
      exact this
    have HOT : Hid (∀ r' (hl : r' < R.length), r' ≠ r → Pu.byt s R[r'].1 = c → Pu.wayR N v s R[r'] i j = 0) := fun r' hl hne hc => by
      have := hoth r' hl hne
      rw [Pu.ruleW_at hl, if_pos hc] at this; exact this
    have HP := hide (fun V (hb : Below W0.heap.size W0 V) => hP.below hb)
    have hll : l.length ≤ 4000000 := by simp only [List.length_append] at hlen'; omega
    obtain ⟨i0, hi, hz0, hz1, hz2⟩ := info_parts Tryd.info5
    have c0 := (hP.below hbw).c0
    have g0 := (hP.below hbw).gr.c0
    generalize Pu.rowR N v s (Pu.treeT N v s R p) R[r] i j = Y at *
    clear ih hN1 hp hst hG hS hway hoth hP hlen hlen' hval hcons hLC
    go_enter Tryd.func46, Tryd.ntmps46
    go_wp2_with fail
    clear c0 g0
    go_loopg [1, 21] (R.length + 1) (fun n tv rv V => ∃ (k : Nat), rv = .int .i64 k ∧ k ≤ r ∧ n = R.length + 1 - k ∧ Below W0.heap.size W0 V ∧ V.ownsRow W0.heap.size 5 1 tv l.length (bys l))
    case atStart => exact ⟨0, rfl, Nat.zero_le _, rfl, hbw, hown⟩
    case round =>
      clear hbw hown
      obtain ⟨k, rfl, hkr, rfl, hbw, hown⟩ := hrel
      have hkl : k < R.length := by omega
      have hPw := HP.out _ hbw
      obtain ⟨f0, f1, f2⟩ := hPw.gr.rules k hkl
      have b1 : (0 : Int) ≤ (k : Int) := by omega
      have b2 : (k : Int) < (R.length : Int) := by omega
      have HFk := hide (HFR.out k hkl)
      have HFO := hide (HOT.out k hkl)
      have hgl := hPw.gl
      have hW0 := hbw.size
      have hB1 := hbw.alloc hW0 (.cells #[.int .u8 ↑(Pu.byt s R[k].1), .string (sub s (R[k].1 + 2) R[k].2), .int .i64 R[k].1] 115)
      have ho1 := hown.alloc (.cells #[.int .u8 ↑(Pu.byt s R[k].1), .string (sub s (R[k].1 + 2) R[k].2), .int .i64 R[k].1] 115)
      by_cases hkr' : k = r
      · subst hkr'
        rw [hnm] at f0 hB1 ho1
        rw [hw1] at HFk
        have k8 : k < 8 := by omega
        have hwk : IntKind.u8.wrap (k : Int) = (k : Int) := by rw [IntKind.wrap_u8]; omega
        have hwu : IntKind.u8.wrap (48 + (k : Int)) = 48 + (k : Int) := by rw [IntKind.wrap_u8]; omega
        have hsn := aside_of (bys_snoc l k8)
        clear HFO HFR HOT hw1 hnm
        generalize sub s (R[k].1 + 2) R[k].2 = t at *
        generalize hp3 : R[k].1 = p3 at *
        have hr1 : (wr.alloc (.cells #[.int .u8 ↑c, .string t, .int .i64 p3] 115)).cell? ⟨wr.heap.size, 1, none⟩ = some (.string t) := by simp
        go_wp2_with (first
          | (go_at_call 73; refine (HFk.out _ hB1).mono ?_; rintro e w2 ⟨rfl, q2, rfl⟩
             have hB2 := Go.below_drewN hB1 q2
             have ho2 := owns_below ho1 (Go.below_drewN (Below.refl _ _) q2)
             have hr2 : ((wr.alloc (.cells #[.int .u8 ↑c, .string t, .int .i64 p3] 115)).drewN q2).cell? ⟨wr.heap.size, 1, none⟩ = some (.string t) := hr1
             have hz2' : ((wr.alloc (.cells #[.int .u8 ↑c, .string t, .int .i64 p3] 115)).drewN q2).heap.size = wr.heap.size + 1 := by simp
             generalize (wr.alloc (.cells #[.int .u8 ↑c, .string t, .int .i64 p3] 115)).drewN q2 = V2 at *
             have hV2 := hB2.size)
          | (at_builtin; refine wpList_append_own _ rfl _ _ 101 rfl W0.heap.size 5 i0 (.int .u8 0) 1 1 Tryd.underlying101 hi hz0 hz1 hz2 rfl (by decide) u1 _ _ rfl (ho2.alloc _) ⟨wr.heap.size + 1, 0, none⟩ 1 1 [.int .u8 (48 + (k : Int))] rfl rfl (by have := cell_one_new V2 (.int .u8 (48 + (k : Int))) 5; rw [hz2'] at this; exact this) (fun x hx => by simp at hx; subst hx; rfl) (by unfold maxLen; omega) (by omega) (by simp; omega) ?_; intro v' w3 hown' hgrow3 hnil3
             have hB3 : Below W0.heap.size W0 w3 := Below.grown (hB2.alloc hV2 _) hgrow3 (by simp; omega) (fun x hx => (ho2.lt _ hx).1)
             have hr3 : w3.cell? ⟨wr.heap.size, 1, none⟩ = some (.string t) := hgrow3.cell (by rw [World.cell?_alloc_lt _ _ _ (by show wr.heap.size < V2.heap.size; omega)]; exact hr2) (fun e => by have h : wr.heap.size < wr.heap.size := (hown.lt _ e.symm).2; omega)
             clear hgrow3 hnil3
             rw [hsn.out] at hown'
             have HTX := hide (HTR.out v' w3 hB3 (by rw [List.length_append]; exact hown')))
          | (go_at_call 74; refine HTX.out.mono ?_; rintro e w4 ⟨tv4, rfl, ho4, hB4⟩))
        go_ret
        exact ⟨tv4, rfl, ho4, hB4⟩
      · have hB2 := hB1
        generalize hcx : Pu.byt s R[k].1 = cx at *
        generalize sub s (R[k].1 + 2) R[k].2 = t at *
        generalize Pu.wayR N v s R[k] i j = y at *
        generalize hp3 : R[k].1 = p3 at *
        by_cases hcc : cx = c
        · obtain rfl : y = 0 := HFO.out hkr' hcc
          subst hcc
          clear HFO HFR HOT
          go_wp2_with (go_at_call 73; refine (HFk.out _ hB1).mono ?_; rintro e w2 ⟨rfl, q2, rfl⟩)
          go_roundg (R.length + 1 - (k + 1))
          case measure => omega
          case rel => exact ⟨k + 1, by go_num, by omega, rfl, Go.below_drewN hB1 _, owns_below ho1 (Go.below_drewN (Below.refl _ _) _)⟩
        · have e1 : ((cx : Int) == (c : Int)) = false := by simp; omega
          clear HFO HFR HOT
          go_wp2_with fail
          go_roundg (R.length + 1 - (k + 1))
          case measure => omega
          case rel => exact ⟨k + 1, by go_num, by omega, rfl, hB1, ho1⟩
end Go.Proofs.YthmbbiahnfpoeaaDoor
