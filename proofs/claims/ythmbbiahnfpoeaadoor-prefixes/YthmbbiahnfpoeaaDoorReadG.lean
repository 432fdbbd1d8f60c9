import Derived.Test.YthmbbiahnfpoeaaDoorGRules
import Derived.Test.YthmbbiahnfpoeaaDoorBarren
import Derived.Test.YthmbbiahnfpoeaaDoorGNames
import Derived.WalkKit
import Derived.WalkSpells
import Derived.WalkSmall
import Derived.BigQuiet
import Derived.Deep.QuietTactic
import Derived.Deep.RegionWith
import Derived.Deep.LoopGhost
import Derived.Deep.RegionHeld3
import Derived.Deep.DeepCutAuto
import Derived.Maps.OwnSet
import Derived.Maps.OwnOps
namespace Go.Proofs.YthmbbiahnfpoeaaDoor
open Go.RowKit Go.Maps

/-- "grammar". -/
def kdG : ByteArray := ⟨#[103, 114, 97, 109, 109, 97, 114]⟩
def sent (x : Addr) : Value := .iface 165 (.pointer (some x))
/-- The error of a number and a place. -/
def errV (kd : ByteArray) (x0 x1 x2 x3 : Addr) (a p : Nat) : Value :=
  if a = 0 then .nilIface else if a = 1 then inV kd (sent x0) else inV kd (atV p (sent (if a = 2 then x1 else if a = 3 then x2 else x3)))
/-- The sentinels' variables. -/
structure Snts (w : World) (x0 x1 x2 x3 : Addr) : Prop where
  c0 : w.cell? ⟨0, 0, none⟩ = some (sent x0)
  c1 : w.cell? ⟨1, 0, none⟩ = some (sent x1)
  c2 : w.cell? ⟨2, 0, none⟩ = some (sent x2)
  c3 : w.cell? ⟨3, 0, none⟩ = some (sent x3)
theorem grown_below {w w1 : World} {o : Obj} (h : (w.alloc o).grownBy w1 (some w.heap.size)) : Below w.heap.size w w1 :=
  ⟨h.os, h.tape, h.output, by have := h.size; simp at this; omega, fun k hk => (h.block k (by simp; omega) (by simp; omega)).trans (Below.heap_alloc _ _ _ hk)⟩

set_option maxRecDepth 100000 in
set_option maxHeartbeats 2000000 in
theorem ReadGrammar_any (s : ByteArray) (x0 x1 x2 x3 : Addr) (w : World) (hX : Snts w x0 x1 x2 x3) :
    Calls Tryd.prog 20 #[.string s] w fun e w' => Below w.heap.size w w' ∧ ∃ (a p : Nat) (v : Value), Pu.Chk s a p ∧ e = .returned (.tuple #[v, errV kdG x0 x1 x2 x3 a p]) ∧
      (a = 0 → s.size ≤ 50 ∧ (Pu.parse s 8 0).2.2 = true ∧ Pu.Closed s (Pu.parse s 8 0).1 ∧ ∃ q g cap B, v = .pointer (some ⟨q, 0, none⟩) ∧ g < w'.heap.size ∧ B < w'.heap.size ∧ GrAt w' q g cap B s (Pu.parse s 8 0).1 (Pu.dist s (Pu.parse s 8 0).1 [])) := by
  by_cases hs : s.size ≤ 50
  · have HC : Aside (∀ a p, Pu.Chk s a p ↔ if (Pu.parse s 8 0).2.2 = true then
      match Pu.bad s (Pu.parse s 8 0).1 (Pu.parse s 8 0).1 with
      | some k => a = 3 ∧ p = k
      | none => ∃ F, Pu.Still s (Pu.parse s 8 0).1 F ∧ match Pu.barren s F (Pu.parse s 8 0).1 with | some k => a = 4 ∧ p = k | none => a = 0 ∧ p = 0
      else a = 2 ∧ p = (Pu.parse s 8 0).2.1) := by
      intro a p
      unfold Pu.Chk
      rw [if_neg (by omega)]
      exact Iff.rfl
    have hgd := Pu.parse_good s 8 0
    have hr : Rdr (w.alloc (.cells #[.string kdG, .string s, .int .i64 0] 78)) w.heap.size 78 kdG s 0 := heap_alloc_new w _
    have HXa : Hid (∀ V, Below w.heap.size w V → V.cell? ⟨1, 0, none⟩ = some (.iface 165 (.pointer (some x1))) ∧ V.cell? ⟨2, 0, none⟩ = some (.iface 165 (.pointer (some x2))) ∧ V.cell? ⟨3, 0, none⟩ = some (.iface 165 (.pointer (some x3)))) := fun V hb =>
      ⟨(below_grown hb none).cell hX.c1 (by simp), (below_grown hb none).cell hX.c2 (by simp), (below_grown hb none).cell hX.c3 (by simp)⟩
    have hl3 : 3 < w.heap.size := World.block_lt_of_cell? w _ hX.c3
    have hB1 : Below w.heap.size w (w.alloc (.cells #[.string kdG, .string s, .int .i64 0] 78)) := (Below.refl _ _).alloc (Nat.le_refl _) _
    have hru := rules_any w.heap.size kdG s 165 x1 _ hr hs (HXa.out _ hB1).1 (by omega)
    clear hX
    obtain ⟨R, pq, bq, hp⟩ : ∃ R q b, Pu.parse s 8 0 = (R, q, b) := ⟨_, _, _, rfl⟩
    rw [hp] at HC hgd hru ⊢
    obtain ⟨hG, hn, hne⟩ := hgd
    cases bq with
    | false =>
      have hru' := hru.mono (R' := fun e w' => (w.alloc (.cells #[.string kdG, .string s, .int .i64 0] 78)).grownBy w' (some w.heap.size) ∧ e = .returned (.tuple #[.slice none 0 0, inV kdG (atV pq (.iface 165 (.pointer (some x1))))])) (by
        rintro e w' ⟨hg, _, ⟨_, he⟩ | ⟨h, _⟩⟩
        · exact ⟨hg, he⟩
        · cases h)
      have HRU := hide hru'
      clear hru hru' hne hG hn hp
      unfold kdG at hr HRU
      go_enter Tryd.func20, Tryd.ntmps20
      go_wp2_with (first
        | (go_at_call 34; refine (within_yes w.heap.size 78 _ s 0 50 _ hr hs).mono ?_; rintro e w1 ⟨rfl, rfl⟩)
        | (go_at_call 35; refine HRU.out.mono ?_; rintro e w2 ⟨hg2, rfl⟩; dsimp only [inV, atV]))
      go_ret2
      exact ⟨grown_below hg2, 2, pq, _, (HC.out 2 pq).2 (by simp), rfl, fun h => by cases h⟩
    | true =>
      have hru' := hru.mono (R' := fun e w' => (w.alloc (.cells #[.string kdG, .string s, .int .i64 0] 78)).grownBy w' (some w.heap.size) ∧ (∃ k, Rdr w' w.heap.size 78 kdG s k) ∧ ∃ g cap, e = .returned (.tuple #[.slice (some ⟨g, 0, none⟩) R.length cap, .nilIface]) ∧ w.heap.size < g ∧ g < w'.heap.size ∧ RulesAt w' g s R) (by
        rintro e w' ⟨hg, hk, ⟨h, he⟩ | ⟨_, v, he, hown⟩⟩
        · cases h
        · refine ⟨hg, hk, ?_⟩
          have hown' := hown
          rcases hown.2 with ⟨_, h0⟩ | ⟨g, cap, _, rfl, hbg, _⟩
          · exact absurd (List.eq_nil_of_length_eq_zero h0) (hne rfl)
          · simp at hbg
            exact ⟨g, cap, he, by omega, (hown'.lt g rfl).2, rulesAt_of hown'⟩)
      have HRU := hide hru'
      have HC2 : Aside (∀ a p, Pu.Chk s a p ↔ match Pu.bad s R R with | some k => a = 3 ∧ p = k | none => ∃ F, Pu.Still s R F ∧ match Pu.barren s F R with | some k => a = 4 ∧ p = k | none => a = 0 ∧ p = 0) := by
        intro a p; rw [HC.out]; simp
      have HNE : Hid (R ≠ []) := hne rfl
      clear hru hru' hp HC hne
      unfold kdG at hr HRU
      go_enter Tryd.func20, Tryd.ntmps20
      go_wp2_with (first
        | (go_at_call 34; refine (within_yes w.heap.size 78 _ s 0 50 _ hr hs).mono ?_; rintro e w1 ⟨rfl, rfl⟩)
        | (go_at_call 35; refine HRU.out.mono ?_; rintro e w2 ⟨hg2, ⟨k0, hr2⟩, g, cap, rfl, hgl, hgh, hRA⟩)
        | (go_at_call 36; refine (numbers_any s R g cap _ hRA hgh hn).mono ?_; rintro e w3 ⟨hb3, B, rfl, hBl, hNM⟩))
      have hBw2 := grown_below hg2
      have hz2 := hBw2.size
      have hBw3 : Below w.heap.size w w3 := hBw2.trans (hb3.mono hz2)
      have hBw4 : Below w.heap.size w (w3.alloc (.cells #[.slice (some ⟨g, 0, none⟩) R.length cap, .map (some B)] 86)) := hBw3.alloc hBw3.size _
      have hr3 : Rdr w3 w.heap.size 78 _ s k0 := rdr_below hr2 hb3
      have hr4 : Rdr (w3.alloc (.cells #[.slice (some ⟨g, 0, none⟩) R.length cap, .map (some B)] 86)) w.heap.size 78 _ s k0 := hr3.grown_alloc _
      have hG4 : GrAt (w3.alloc (.cells #[.slice (some ⟨g, 0, none⟩) R.length cap, .map (some B)] 86)) w3.heap.size g cap B s R (Pu.dist s R []) :=
        ⟨heap_alloc_new w3 _, (hRA.below hb3 hgh).grown (World.grownBy_alloc w3 _ none) (by simp), hNM.kept (World.grownBy_alloc w3 _ none) (by simp)⟩
      have hB3l := hNM.lt
      have hz3 := hb3.size
      generalize w3.alloc (.cells #[.slice (some ⟨g, 0, none⟩) R.length cap, .map (some B)] 86) = W at *
      have hBW : B < W.heap.size := by have := hG4.nums.lt; exact this
      have hgW : g < W.heap.size := by
        have := World.block_lt_of_cell? W _ (hG4.rules 0 (Nat.pos_of_ne_zero (fun e => HNE.out (List.eq_nil_of_length_eq_zero e)))).1
        exact this
      obtain ⟨hX1, hX2, hX3⟩ := HXa.out W hBw4
      cases hbad : Pu.bad s R R with
      | some kk =>
        have hcal := gnames_any w.heap.size w3.heap.size g cap B _ s k0 165 x2 R W hr4 hG4 hX2 hG hn hs
        rw [hbad] at hcal
        have HCL := hide hcal
        have HCH : Aside (Pu.Chk s 3 kk) := by show Pu.Chk _ _ _; rw [HC2.out, hbad]; exact ⟨rfl, rfl⟩
        clear hcal hbad hr4 hG4 hX1 hX2 hX3 hRA hNM hr2 hr3 hg2 hb3 HC2 HRU HXa
        go_wp2_with (go_at_call 37; refine HCL.out.mono ?_; rintro e w5 ⟨hb5, rfl⟩; dsimp only [badV, inV, atV])
        go_ret2
        exact ⟨hBw4.trans (hb5.mono hBw4.size), 3, kk, _, HCH.out, rfl, fun h => by cases h⟩
      | none =>
        have hC : Pu.Closed s R := fun r hr => Pu.closed_of R hbad r hr
        have hcal := gnames_any w.heap.size w3.heap.size g cap B _ s k0 165 x2 R W hr4 hG4 hX2 hG hn hs
        rw [hbad] at hcal
        have HCL := hide hcal
        have HCH : Aside (∀ a p F, Pu.Still s R F → (match Pu.barren s F R with | some k => a = 4 ∧ p = k | none => a = 0 ∧ p = 0) → Pu.Chk s a p) := by
          intro a p F h1 h2
          rw [HC2.out, hbad]; exact ⟨F, h1, h2⟩
        have HBR := hide (fun V (hb : Below W.heap.size W V) => barren_any w.heap.size w3.heap.size g cap B _ s k0 165 x3 R V (rdr_below hr4 hb) (hG4.grown (below_grown hb none) (by simp) (by simp) (by simp)) ((below_grown hb none).cell hX3 (by simp)) hG hC hn hs (Nat.lt_of_lt_of_le hgW hb.size) (Nat.lt_of_lt_of_le hBW hb.size))
        have HGW := hide (fun V (hb : Below W.heap.size W V) => hG4.grown (below_grown hb none) (by simp) (by simp) (by simp))
        clear hcal hbad hr4 hG4 hX1 hX2 hX3 hRA hNM hr2 hr3 hg2 hb3 HC2 HRU HXa
        go_wp2_with (go_at_call 37; refine HCL.out.mono ?_; rintro e w5 ⟨hb5, rfl⟩; dsimp only [badV])
        refine (HBR.out _ hb5).mono ?_
        rintro e w6 ⟨hb6, F, hST, hm6⟩
        have hB6 : Below w.heap.size w w6 := (hBw4.trans (hb5.mono hBw4.size)).trans (hb6.mono (Nat.le_trans hBw4.size hb5.size))
        cases hq : Pu.barren s F R with
        | some kk =>
          rw [hq] at hm6
          obtain rfl : e = .returned (inV _ (atV kk (.iface 165 (.pointer (some x3))))) := hm6
          have HF : Aside (Pu.Chk s 4 kk) := HCH.out 4 kk F hST (by rw [hq]; exact ⟨rfl, rfl⟩)
          clear hq hST
          dsimp only [inV, atV]
          go_wp2_with fail
          go_ret2
          exact ⟨hB6, 4, kk, _, HF.out, rfl, fun h => by cases h⟩
        | none =>
          rw [hq] at hm6
          obtain rfl : e = .returned .nilIface := hm6
          have HF : Aside (Pu.Chk s 0 0) := HCH.out 0 0 F hST (by rw [hq]; exact ⟨rfl, rfl⟩)
          have hb56 := hb5.trans (hb6.mono hb5.size)
          clear hq hST
          go_wp2_with fail
          go_ret2
          exact ⟨hB6, 0, 0, _, HF.out, rfl, fun _ => ⟨hs, trivial, hC, _, g, cap, B, rfl, Nat.lt_of_lt_of_le hgW hb56.size, Nat.lt_of_lt_of_le hBW hb56.size, HGW.out _ hb56⟩⟩
  · have hr : Rdr (w.alloc (.cells #[.string kdG, .string s, .int .i64 0] 78)) w.heap.size 78 kdG s 0 := heap_alloc_new w _
    have hc0 : (w.alloc (.cells #[.string kdG, .string s, .int .i64 0] 78)).cell? ⟨0, 0, none⟩ = some (.iface 165 (.pointer (some x0))) := by rw [World.cell?_alloc_lt _ _ _ (World.block_lt_of_cell? w _ hX.c0)]; exact hX.c0
    have HC : Aside (Pu.Chk s 1 0) := by show Pu.Chk _ _ _; unfold Pu.Chk; rw [if_pos (by omega)]; exact ⟨rfl, rfl⟩
    clear hX
    unfold kdG at hr hc0
    go_enter Tryd.func20, Tryd.ntmps20
    go_wp2_with (go_at_call 34; refine (within_no w.heap.size 78 kdG s 0 50 _ hr (by omega) 165 x0 hc0).mono ?_; rintro e w1 ⟨rfl, nq, rfl⟩; dsimp only [inV])
    go_ret2
    refine ⟨Go.below_drewN ((Below.refl _ _).alloc (Nat.le_refl _) _) _, 1, 0, _, HC.out, rfl, fun h => by cases h⟩
end Go.Proofs.YthmbbiahnfpoeaaDoor
