import Derived.Test.YthmbbiahnfpoeaaDoorRuns
import Derived.WalkKit
import Derived.LaidEql
import Derived.Stop.Asserts
import Derived.RowKitTokens
import Derived.Deep.LoopGhost
namespace Go.Proofs.YthmbbiahnfpoeaaDoor
open Go.RowKit Go.Extern.Stop Go.Stop Go.Extern

theorem Tryd.et : Tryd.prog.globalNamed "errors.errorType" = some 14 := by kernel_rfl
theorem Tryd.eL : Tryd.prog.globalNamed "shift/fault.Long" = some 0 := by kernel_rfl
theorem Tryd.eX : Tryd.prog.globalNamed "shift/fault.Letter" = some 4 := by kernel_rfl

theorem Tryd.eqIn (v u : Value) (w : World) : (binOp .eql 49 (.iface 112 v) (.iface 165 u)).run Tryd.prog w = .ok (.bool false) w := by kernel_rfl
theorem Tryd.eqAt (v u : Value) (w : World) : (binOp .eql 49 (.iface 90 v) (.iface 165 u)).run Tryd.prog w = .ok (.bool false) w := by kernel_rfl
set_option maxRecDepth 100000
theorem Tryd.noIs112 (v : Value) (xT : TypeId) (w : World) : (Instr.typeAssert (.iface 112 v) xT 149 true).run Tryd.prog w = .ok (.tuple #[.nilIface, .bool false]) w := run_typeAssert_lacksB Tryd.underlying149 (by kernel_rfl) (by kernel_rfl) v xT w
theorem Tryd.noAs112 (v : Value) (xT : TypeId) (w : World) : (Instr.typeAssert (.iface 112 v) xT 159 true).run Tryd.prog w = .ok (.tuple #[.nilIface, .bool false]) w := run_typeAssert_lacksB Tryd.underlying159 (by kernel_rfl) (by kernel_rfl) v xT w
theorem Tryd.noIs90 (v : Value) (xT : TypeId) (w : World) : (Instr.typeAssert (.iface 90 v) xT 149 true).run Tryd.prog w = .ok (.tuple #[.nilIface, .bool false]) w := run_typeAssert_lacksB Tryd.underlying149 (by kernel_rfl) (by kernel_rfl) v xT w
theorem Tryd.noAs90 (v : Value) (xT : TypeId) (w : World) : (Instr.typeAssert (.iface 90 v) xT 159 true).run Tryd.prog w = .ok (.tuple #[.nilIface, .bool false]) w := run_typeAssert_lacksB Tryd.underlying159 (by kernel_rfl) (by kernel_rfl) v xT w
theorem Tryd.noIs165 (v : Value) (xT : TypeId) (w : World) : (Instr.typeAssert (.iface 165 v) xT 149 true).run Tryd.prog w = .ok (.tuple #[.nilIface, .bool false]) w := run_typeAssert_lacksB Tryd.underlying149 (by kernel_rfl) (by kernel_rfl) v xT w
theorem Tryd.noAs165 (v : Value) (xT : TypeId) (w : World) : (Instr.typeAssert (.iface 165 v) xT 159 true).run Tryd.prog w = .ok (.tuple #[.nilIface, .bool false]) w := run_typeAssert_lacksB Tryd.underlying159 (by kernel_rfl) (by kernel_rfl) v xT w
theorem Tryd.un112 (v : Value) (xT : TypeId) (w : World) : (Instr.typeAssert (.iface 112 v) xT 152 true).run Tryd.prog w = .ok (.tuple #[.iface 112 v, .bool true]) w := run_typeAssert_hasB Tryd.underlying152 (by kernel_rfl) v xT w
theorem Tryd.un90 (v : Value) (xT : TypeId) (w : World) : (Instr.typeAssert (.iface 90 v) xT 152 true).run Tryd.prog w = .ok (.tuple #[.iface 90 v, .bool true]) w := run_typeAssert_hasB Tryd.underlying152 (by kernel_rfl) v xT w
theorem Tryd.noUn165 (v : Value) (xT : TypeId) (w : World) : (Instr.typeAssert (.iface 165 v) xT 152 true).run Tryd.prog w = .ok (.tuple #[.nilIface, .bool false]) w := run_typeAssert_lacksB Tryd.underlying152 (by kernel_rfl) (by kernel_rfl) v xT w
theorem Tryd.noUns165 (v : Value) (xT : TypeId) (w : World) : (Instr.typeAssert (.iface 165 v) xT 154 true).run Tryd.prog w = .ok (.tuple #[.nilIface, .bool false]) w := run_typeAssert_lacksB Tryd.underlying154 (by kernel_rfl) (by kernel_rfl) v xT w
theorem Tryd.mUn112 (v : Value) (w : World) : (Go.method 298 112 v "Unwrap").run Tryd.prog w = .ok (104, v) w := by kernel_rfl
theorem Tryd.mUn90 (v : Value) (w : World) : (Go.method 298 90 v "Unwrap").run Tryd.prog w = .ok (102, v) w := by kernel_rfl
/-- A sentinel's own block. -/
def Snt (w : World) (x : Addr) : Prop := ∃ c t, w.heap[x.block]? = some (.cells c t (0, 0))
theorem Snt.below {w w' : World} {x : Addr} (h : Snt w x) (hb : Below w.heap.size w w') : Snt w' x := by
  obtain ⟨c, t, h⟩ := h
  exact ⟨c, t, by rw [hb.block _ (Array.getElem?_eq_some_iff.1 h).1]; exact h⟩
theorem Tryd.cmp165 : (Tryd.prog.info? 165).map (·.comparable) = some true := by kernel_rfl
theorem Tryd.size164 : ∃ e, Tryd.prog.underlying 165 = some (.pointer e) ∧ (Tryd.prog.info? e).map (fun j => j.size == 0) = some false := ⟨_, Tryd.underlying165, by kernel_rfl⟩
theorem Tryd.eqPtr (x y : Addr) (w : World) (hx : Snt w x) (hy : Snt w y) : (binOp .eql 49 (.iface 165 (.pointer (some x))) (.iface 165 (.pointer (some y)))).run Tryd.prog w = .ok (.bool (decide (x = y))) w := by
  obtain ⟨i, hi, hc⟩ := Option.map_eq_some_iff.1 Tryd.cmp165
  obtain ⟨e, he, hj⟩ := Tryd.size164
  obtain ⟨j, hj, hz⟩ := Option.map_eq_some_iff.1 hj
  obtain ⟨cx, tx, hx⟩ := hx
  obtain ⟨cy, ty, hy⟩ := hy
  by_cases e : x = y
  · subst e
    rw [run_eql_iface_ptr_same w x Tryd.underlying49 he hi hc hj]; simp
  · rw [run_eql_iface_ptr_other w Tryd.underlying49 he hi hc hj (by simpa using hz) e hx hy]; simp [e]
theorem Snt.alloc {w : World} {x : Addr} (h : Snt w x) (o : Obj) : Snt (w.alloc o) x := h.below ((Below.refl _ _).alloc (Nat.le_refl _) _)
set_option maxRecDepth 100000 in
set_option maxHeartbeats 1000000 in
theorem is_in (kd : ByteArray) (x y : Addr) (w : World) (hx : Snt w x) (hy : Snt w y) :
    Calls Tryd.prog 64 #[inV kd (.iface 165 (.pointer (some x))), .iface 165 (.pointer (some y)), .bool true] w fun e w' => e = .returned (.bool (decide (x = y))) ∧ Below w.heap.size w w' := by
  unfold inV
  have h1 := Tryd.eqIn
  have h2 := Tryd.noIs112
  have h3 := Tryd.un112
  have h4 := Tryd.noIs165
  have h5 := Tryd.noUn165
  have h6 := Tryd.noUns165
  have h7 := Tryd.mUn112
  have h8 := fun o => Tryd.eqPtr x y (w.alloc o) (hx.alloc o) (hy.alloc o)
  by_cases hxy : x = y
  · have hd : decide (x = y) = true := by simpa using hxy
    simp only [hd] at h8 ⊢
    clear hx hy hxy hd
    go_enter Tryd.func64, Tryd.ntmps64
    go_wp2
    refine wp_loop_rounds 2 ?_
    rw [rounds_succ]
    go_wp2
    rw [rounds_succ]
    go_wp2
    go_ret
    exact ⟨rfl, (Below.refl _ _).alloc (Nat.le_refl _) _⟩
  · have hd : decide (x = y) = false := by simpa using hxy
    simp only [hd] at h8 ⊢
    clear hx hy hxy hd
    go_enter Tryd.func64, Tryd.ntmps64
    go_wp2
    refine wp_loop_rounds 2 ?_
    rw [rounds_succ]
    go_wp2
    rw [rounds_succ]
    go_wp2
    go_ret
    exact ⟨rfl, (Below.refl _ _).alloc (Nat.le_refl _) _⟩
set_option maxRecDepth 100000 in
set_option maxHeartbeats 1000000 in
theorem is_at (kd : ByteArray) (p : Nat) (x y : Addr) (w : World) (hx : Snt w x) (hy : Snt w y) :
    Calls Tryd.prog 64 #[inV kd (atV p (.iface 165 (.pointer (some x)))), .iface 165 (.pointer (some y)), .bool true] w fun e w' => e = .returned (.bool (decide (x = y))) ∧ Below w.heap.size w w' := by
  unfold inV atV
  have h1 := Tryd.eqIn
  have h1' := Tryd.eqAt
  have h2 := Tryd.noIs112
  have h2' := Tryd.noIs90
  have h3 := Tryd.un112
  have h3' := Tryd.un90
  have h4 := Tryd.noIs165
  have h5 := Tryd.noUn165
  have h6 := Tryd.noUns165
  have h7 := Tryd.mUn112
  have h7' := Tryd.mUn90
  have h8 := fun o o' => Tryd.eqPtr x y ((w.alloc o).alloc o') ((hx.alloc o).alloc o') ((hy.alloc o).alloc o')
  by_cases hxy : x = y
  · have hd : decide (x = y) = true := by simpa using hxy
    simp only [hd] at h8 ⊢
    clear hx hy hxy hd
    go_enter Tryd.func64, Tryd.ntmps64
    go_wp2
    refine wp_loop_rounds 3 ?_
    rw [rounds_succ]
    go_wp2
    rw [rounds_succ]
    go_wp2
    rw [rounds_succ]
    go_wp2
    go_ret
    exact ⟨rfl, ((Below.refl _ _).alloc (Nat.le_refl _) _).alloc (by simp) _⟩
  · have hd : decide (x = y) = false := by simpa using hxy
    simp only [hd] at h8 ⊢
    clear hx hy hxy hd
    go_enter Tryd.func64, Tryd.ntmps64
    go_wp2
    refine wp_loop_rounds 3 ?_
    rw [rounds_succ]
    go_wp2
    rw [rounds_succ]
    go_wp2
    rw [rounds_succ]
    go_wp2
    go_ret
    exact ⟨rfl, ((Below.refl _ _).alloc (Nat.le_refl _) _).alloc (by simp) _⟩
end Go.Proofs.YthmbbiahnfpoeaaDoor
