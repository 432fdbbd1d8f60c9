import Derived.Test.YthmbbiahnfpoeaaDoorRuns
import Derived.WalkKit
import Derived.WalkSpells
import Derived.WalkSmall
import Derived.BigQuiet
import Derived.Deep.QuietTactic
import Derived.Deep.RegionWith
import Derived.Deep.LoopGhost
import Derived.Deep.RegionHeld3
import Derived.Deep.DeepCutAuto
import Derived.Maps.OwnSet
import Derived.Maps.OwnOps
namespace Go.Proofs.YthmbbiahnfpoeaaDoor
open Go.RowKit Go.Maps

namespace Pu
/-- The names of rules, each once, in the order of their first rules. -/
def addN (L : List Nat) (c : Nat) : List Nat := if c ∈ L then L else L ++ [c]
def dist (s : ByteArray) : List (Nat × Nat) → List Nat → List Nat
  | [], L => L
  | r :: R, L => dist s R (addN L (byt s r.1))
theorem mem_addN (L : List Nat) (c d : Nat) : d ∈ addN L c ↔ d ∈ L ∨ d = c := by
  unfold addN; split
  · exact ⟨.inl, fun h => h.elim id (fun e => e ▸ by assumption)⟩
  · simp
theorem nodup_addN {L : List Nat} (h : L.Nodup) (c : Nat) : (addN L c).Nodup := by
  unfold addN; split
  · exact h
  · rename_i hc
    rw [List.nodup_append]
    exact ⟨h, by simp, fun a ha b hb => by simp at hb; subst hb; exact fun e => hc (e ▸ ha)⟩
theorem dist_spec (s : ByteArray) : ∀ (R : List (Nat × Nat)) (L : List Nat), L.Nodup → (dist s R L).Nodup ∧ (∀ c, c ∈ dist s R L ↔ c ∈ L ∨ has s R c = true) ∧ (dist s R L).length ≤ L.length + R.length
  | [], L, h => ⟨h, fun c => by simp [dist, has], Nat.le_refl _⟩
  | r :: R, L, h => by
    have ih := dist_spec s R (addN L (byt s r.1)) (nodup_addN h _)
    refine ⟨ih.1, fun c => ?_, ?_⟩
    · show c ∈ dist s R (addN L (byt s r.1)) ↔ _
      rw [ih.2.1, mem_addN]
      have e : has s (r :: R) c = (byt s r.1 == c || has s R c) := rfl
      rw [e, Bool.or_eq_true, beq_iff_eq, or_assoc]
      exact ⟨fun h => h.elim .inl (fun h => .inr (h.elim (fun e => .inl e.symm) .inr)), fun h => h.elim .inl (fun h => .inr (h.elim (fun e => .inl e.symm) .inr))⟩
    · have := ih.2.2
      have h2 : (addN L (byt s r.1)).length ≤ L.length + 1 := by unfold addN; split <;> simp
      show (dist s R (addN L (byt s r.1))).length ≤ _
      simp only [List.length_cons]
      omega
end Pu

theorem law5 : Keyed Tryd.prog 5 := int_keyed Tryd.underlying5
theorem zero3 (w : World) : (zeroValue 3).run Tryd.prog w = .ok (.int .i64 0) w := by kernel_rfl
theorem wf_u8 {c : Nat} (h : c < 256) : (Lit.int .u8 (c : Int)).wf = true := by
  have h1 : IntKind.u8.min = 0 := by decide
  have h2 : IntKind.u8.max = 255 := by decide
  simp only [Lit.wf, h1, h2, Bool.and_eq_true, decide_eq_true_eq]; omega

theorem wf_i64n {c : Nat} (h : c < 1000) : (Lit.int .i64 (c : Int)).wf = true := by
  have h1 : IntKind.i64.min = -9223372036854775808 := by decide
  have h2 : IntKind.i64.max = 9223372036854775807 := by decide
  simp only [Lit.wf, h1, h2, Bool.and_eq_true, decide_eq_true_eq]; omega
/-- The map of the names' numbers. -/
def NumAt (w : World) (B : Nat) (L : List Nat) : Prop := ∃ D : DataW Unit, w.ownsMap Tryd.prog 5 (plainElem Tryd.prog 3) B L.length D ∧ Maps.size D = L.length ∧
  ∀ c : Nat, c < 256 → Maps.has D (.int .u8 c) = decide (c ∈ L) ∧ D.atKey (.int .u8 c) (.lit (.int .i64 0)) = .lit (.int .i64 (if c ∈ L then (L.idxOf c : Int) else 0))
theorem NumAt.look {w : World} {B : Nat} {L : List Nat} (h : NumAt w B L) {c : Nat} (hc : c < 256) :
    (Instr.lookup 83 (.map (some B)) (.int .u8 c) false).run Tryd.prog w = .ok (.int .i64 (if c ∈ L then (L.idxOf c : Int) else 0)) w := by
  obtain ⟨D, hown, _, hD⟩ := h
  obtain ⟨v, hrun, hat, _⟩ := hown.lookup_int law5 Tryd.underlying83 Tryd.underlying3 (zero3 w) (keyOf_int_mk Tryd.underlying5 (wf_u8 hc))
  have := (hD c hc).2
  rw [this] at hat
  simp only [DataW.lit.injEq, Lit.int.injEq, true_and] at hat
  rw [hat]; exact hrun
theorem NumAt.look_ok {w : World} {B : Nat} {L : List Nat} (h : NumAt w B L) {c : Nat} (hc : c < 256) :
    (Instr.lookup 83 (.map (some B)) (.int .u8 c) true).run Tryd.prog w = .ok (.tuple #[.int .i64 (if c ∈ L then (L.idxOf c : Int) else 0), .bool (decide (c ∈ L))]) w := by
  obtain ⟨D, hown, _, hD⟩ := h
  obtain ⟨v, ps, hrun, hv⟩ := hown.look_ok law5 Tryd.underlying83 (zero3 w) (plainElem_int Tryd.underlying3 (wf_i64n (c := 0) (by decide))) (keyOf_int_mk Tryd.underlying5 (wf_u8 hc))
  obtain ⟨a, rfl, ha, _⟩ := plainElem_int_inv Tryd.underlying3 hv
  have h2 := (hD c hc).2
  have ha1 := (Prod.mk.inj ha).1
  rw [h2] at ha1
  simp only [DataW.lit.injEq, Lit.int.injEq, true_and] at ha1
  rw [hrun, (hD c hc).1, ha1]
theorem NumAt.len {w : World} {B : Nat} {L : List Nat} (h : NumAt w B L) (ty : TypeId) : (Builtin.len_ #[83] ty #[.map (some B)]).run Tryd.prog w = .ok (.int .i64 L.length) w := by
  obtain ⟨D, hown, hsz, _⟩ := h
  rw [hown.len Tryd.underlying83 ty, hsz]
theorem NumAt.kept {w w' : World} {B : Nat} {L : List Nat} (h : NumAt w B L) {row : Option Nat} (hg : w.grownBy w' row) (hne : some B ≠ row) : NumAt w' B L := by
  obtain ⟨D, hown, r⟩ := h
  exact ⟨D, hown.kept hg hne, r⟩
theorem NumAt.lt {w : World} {B : Nat} {L : List Nat} (h : NumAt w B L) : B < w.heap.size := by
  obtain ⟨D, hown, _⟩ := h
  exact hown.lt
theorem NumAt.made (w : World) : NumAt (w.alloc (.map #[] 0)) w.heap.size [] :=
  ⟨.map [], World.ownsMap_made w _ _ _, rfl, fun _ _ => ⟨rfl, rfl⟩⟩
theorem NumAt.put {w : World} {B : Nat} {L : List Nat} (h : NumAt w B L) {c : Nat} (hc : c < 256) (hnew : c ∉ L) (hL : L.length < 100) :
    ∃ w', (Instr.mapUpdate 83 (.map (some B)) (.int .u8 c) (.int .i64 L.length)).run Tryd.prog w = .ok () w' ∧ NumAt w' B (L ++ [c]) ∧ w.grownBy w' (some B) := by
  obtain ⟨D, hown, hsz, hD⟩ := h
  obtain ⟨w', hrun, hown', hg⟩ := hown.update law5 Tryd.underlying83 (by unfold maxLen; omega) (keyOf_int_mk Tryd.underlying5 (wf_u8 hc)) (plainElem_int Tryd.underlying3 (wf_i64n (c := L.length) (by omega)))
  have hK : WideAt.IsKeyLit (.int .u8 (c : Int)) := by simp [WideAt.IsKeyLit]
  have hhas : Maps.has D (.int .u8 c) = false := by rw [(hD c hc).1]; simpa using hnew
  refine ⟨w', hrun, ⟨_, by rw [List.length_append]; exact hown', ?_, fun d hd => ?_⟩, hg⟩
  · rw [Maps.size_put (hown.tidy law5), hhas, hsz]; simp
  · by_cases e : d = c
    · subst e
      rw [Maps.has_put_same hown.isMap hK, Maps.atKey_put_same hown.isMap hK]
      simp [List.idxOf_append, hnew]
    · have hne : (Lit.int .u8 (d : Int)) ≠ (Lit.int .u8 (c : Int)) := by simp; omega
      rw [Maps.has_put_other hne, Maps.atKey_put_other hne, (hD d hd).1, (hD d hd).2]
      by_cases hm : d ∈ L
      · simp [hm, List.idxOf_append]
      · simp [hm, e]
theorem wpList_numPut (w : World) {ops : Array Oper} {rest : List Oper} {o : Oper} {a : Act} {Q : Exit → Act → World → Prop}
    (hg : o.guard = none) (m x v : Operand) (hop : o.op = Op.mapUpdate 83 m x v) (B : Nat) (L : List Nat) (hM : NumAt w B L) (c : Nat) (hc : c < 256) (hnew : c ∉ L) (hL : L.length < 100)
    (hm : a.eval m = .map (some B)) (hx : a.eval x = .int .u8 c) (hv : a.eval v = .int .i64 L.length)
    (hK : ∀ w', NumAt w' B (L ++ [c]) → w.grownBy w' (some B) → wpList Tryd.prog ops Q rest (a.put o.dst undef) w') :
    wpList Tryd.prog ops Q (o :: rest) a w := by
  refine wpList_plain hg fun K' hK' => ?_
  obtain ⟨w', hrun, r1, r2⟩ := hM.put hc hnew hL
  unfold Oper.wp
  simp [execOp, hop, hm, hx, hv, hrun, Result.andThen]
  exact hK' _ _ (hK w' r1 r2)
theorem dist_drop {s : ByteArray} {R : List (Nat × Nat)} {k : Nat} (h : k < R.length) (L : List Nat) : Pu.dist s (R.drop k) L = Pu.dist s (R.drop (k + 1)) (Pu.addN L (Pu.byt s R[k].1)) := by
  rw [List.drop_eq_getElem_cons h]; rfl
theorem RulesAt.grown {w w' : World} {g : Nat} {s : ByteArray} {R : List (Nat × Nat)} (h : RulesAt w g s R) {row : Option Nat} (hg : w.grownBy w' row) (hne : some g ≠ row) : RulesAt w' g s R := by
  intro m hm
  obtain ⟨h1, h2, h3⟩ := h m hm
  exact ⟨hg.cell h1 hne, hg.cell h2 hne, hg.cell h3 hne⟩

set_option maxRecDepth 100000 in
set_option maxHeartbeats 1000000 in
theorem numbers_any (s : ByteArray) (R : List (Nat × Nat)) (g cap : Nat) (w : World) (hR : RulesAt w g s R) (hg : g < w.heap.size) (hn : R.length ≤ 8) :
    Calls Tryd.prog 36 #[.slice (some ⟨g, 0, none⟩) R.length cap] w fun e w' => Below w.heap.size w w' ∧ ∃ B, e = .returned (.map (some B)) ∧ w.heap.size ≤ B ∧ NumAt w' B (Pu.dist s R []) := by
  have hmm := @run_makeMap Tryd.prog
  go_enter Tryd.func36, Tryd.ntmps36
  go_wp2_with fail
  go_loopg [11] R.length (fun n iv wr => ∃ (k : Nat) (L : List Nat), iv = .int .i64 k ∧ k ≤ R.length ∧ n = R.length - k ∧ Below w.heap.size w wr ∧ NumAt wr w.heap.size L ∧ L.length ≤ k ∧ Pu.dist s R [] = Pu.dist s (R.drop k) L)
  case atStart => exact ⟨0, [], rfl, Nat.zero_le _, rfl, (Below.refl _ _).alloc (Nat.le_refl _) _, NumAt.made w, Nat.le_refl _, rfl⟩
  case round =>
    obtain ⟨k, L, rfl, hk, rfl, hbw, hM, hL, hds⟩ := hrel
    have HD := aside_of hds
    clear hds hmm
    by_cases hkl : k < R.length
    · obtain ⟨hc0, hc1, hc2⟩ := (hR.below hbw hg) k hkl
      have HS := aside_of (dist_drop (s := s) hkl L)
      have hb256 := Pu.byt_lt s R[k].1
      generalize Pu.byt s R[k].1 = c at *
      generalize sub s (R[k].1 + 2) R[k].2 = t at *
      generalize R[k].1 = p at *
      have hMa := fun o => hM.kept (World.grownBy_alloc wr o none) (by simp)
      by_cases hcL : c ∈ L
      · have hl := fun o => (hMa o).look_ok hb256
        simp only [hcL, if_true, decide_true] at hl
        have HX : Aside (Pu.dist s R [] = Pu.dist s (R.drop (k + 1)) L) := by
          show _ = _
          rw [HD.out, HS.out, Pu.addN, if_pos hcL]
        clear hR HS HD
        go_wp2_with fail
        go_roundg (R.length - (k + 1))
        case measure => omega
        case rel => exact ⟨k + 1, L, by go_num, by omega, rfl, hbw.alloc hbw.size _, hMa _, by omega, HX.out⟩
      · have hl := fun o => (hMa o).look_ok hb256
        simp only [hcL, if_false, decide_false] at hl
        have hln := fun o ty => (hMa o).len ty
        have HX : Aside (Pu.dist s R [] = Pu.dist s (R.drop (k + 1)) (L ++ [c])) := by
          show _ = _
          rw [HD.out, HS.out, Pu.addN, if_neg hcL]
        have hsz := hbw.size
        clear hR HS HD
        go_wp2_with (at_mapUpdate; refine wpList_numPut _ rfl _ _ _ rfl w.heap.size L (hMa _) c hb256 hcL (by omega) rfl rfl rfl ?_; intro w1 hM1 hg1)
        go_roundg (R.length - (k + 1))
        case measure => omega
        case rel => exact ⟨k + 1, L ++ [c], by go_num, by omega, rfl, Below.grown (hbw.alloc hbw.size _) hg1 (by simp; omega) (fun j hj => by cases hj; exact Nat.le_refl _), hM1, by simp; omega, HX.out⟩
    · have HX : Aside (Pu.dist s R [] = L) := by
        show _ = _
        rw [HD.out, List.drop_eq_nil_of_le (by omega)]; rfl
      clear HD hR
      go_wp2_with fail
      go_ret
      exact ⟨hbw, _, rfl, Nat.le_refl _, by rw [HX.out]; exact hM⟩
end Go.Proofs.YthmbbiahnfpoeaaDoor
