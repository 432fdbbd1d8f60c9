import Derived.Test.YthmbbiahnfpoeaaDoorErrs
import Derived.WalkKit
import Derived.LaidEql
import Derived.Stop.Asserts
import Derived.RowKitTokens
import Derived.Deep.LoopGhost
namespace Go.Proofs.YthmbbiahnfpoeaaDoor
open Go.RowKit Go.Extern.Stop Go.Stop Go.Extern

theorem Tryd.typeOf165 (v : Value) (w : World) : (ReflectliteType.typeOf #[.iface 165 v]).run Tryd.prog w = .ok (.iface 147 (.agg #[.pointer (some ⟨15, 165, none⟩)])) w := by kernel_rfl
theorem Tryd.mComparable (h : Value) (w : World) : (Go.method 298 147 (.agg #[h]) "Comparable").run Tryd.prog w = .ok (110, .agg #[h]) w := by kernel_rfl
theorem Tryd.comparable165 (w : World) : (ReflectliteType.method (fun t => do Rtype.noPackHeld "Comparable" t; (fun a => Value.bool a.comparable) <$> typeInfo t) #[.agg #[.pointer (some ⟨15, 165, none⟩)]]).run Tryd.prog w = .ok (.bool true) w := by kernel_rfl
theorem Tryd.eqNil (v : Value) (t : TypeId) (w : World) : (binOp .eql 49 (.iface t v) .nilIface).run Tryd.prog w = .ok (.bool false) w := by kernel_rfl

theorem Is_nil (y : Addr) (w : World) : Calls Tryd.prog 39 #[.nilIface, .iface 165 (.pointer (some y))] w fun e w' => e = .returned (.bool false) ∧ w' = w := by
  have hn := run_eql_iface_nil_left (P := Tryd.prog) w 165 (.pointer (some y)) Tryd.underlying49
  go_enter Tryd.func39, Tryd.ntmps39
  go_wp2
  go_ret
  exact ⟨rfl, rfl⟩
set_option maxHeartbeats 1000000 in
theorem Is_in (kd : ByteArray) (x y : Addr) (w : World) (hx : Snt w x) (hy : Snt w y) :
    Calls Tryd.prog 39 #[inV kd (.iface 165 (.pointer (some x))), .iface 165 (.pointer (some y))] w fun e w' => e = .returned (.bool (decide (x = y))) ∧ Below w.heap.size w w' := by
  have h63 := @run_callFunc_extern Tryd.prog 63 _ ReflectliteType.typeOf Tryd.func63 (by kernel_rfl) (by kernel_rfl) (by kernel_rfl) (by kernel_rfl)
  have h110 := @run_callFunc_extern Tryd.prog 110 _ (ReflectliteType.method fun t => do Rtype.noPackHeld "Comparable" t; pure (.bool (← typeInfo t).comparable)) Tryd.func110 (by kernel_rfl) (by kernel_rfl) (by kernel_rfl) (by kernel_rfl)
  have tO := Tryd.typeOf165
  have mC := Tryd.mComparable
  have c1 := Tryd.comparable165
  have HI := hide (is_in kd x y w hx hy)
  unfold inV at HI ⊢
  clear hx hy
  go_enter Tryd.func39, Tryd.ntmps39
  go_wp2_with (go_at_call 64; refine HI.out.mono ?_; rintro e w1 ⟨rfl, hb1⟩)
  go_ret
  exact ⟨rfl, hb1⟩
set_option maxHeartbeats 1000000 in
theorem Is_at (kd : ByteArray) (p : Nat) (x y : Addr) (w : World) (hx : Snt w x) (hy : Snt w y) :
    Calls Tryd.prog 39 #[inV kd (atV p (.iface 165 (.pointer (some x)))), .iface 165 (.pointer (some y))] w fun e w' => e = .returned (.bool (decide (x = y))) ∧ Below w.heap.size w w' := by
  have h63 := @run_callFunc_extern Tryd.prog 63 _ ReflectliteType.typeOf Tryd.func63 (by kernel_rfl) (by kernel_rfl) (by kernel_rfl) (by kernel_rfl)
  have h110 := @run_callFunc_extern Tryd.prog 110 _ (ReflectliteType.method fun t => do Rtype.noPackHeld "Comparable" t; pure (.bool (← typeInfo t).comparable)) Tryd.func110 (by kernel_rfl) (by kernel_rfl) (by kernel_rfl) (by kernel_rfl)
  have tO := Tryd.typeOf165
  have mC := Tryd.mComparable
  have c1 := Tryd.comparable165
  have HI := hide (is_at kd p x y w hx hy)
  unfold inV atV at HI ⊢
  clear hx hy
  go_enter Tryd.func39, Tryd.ntmps39
  go_wp2_with (go_at_call 64; refine HI.out.mono ?_; rintro e w1 ⟨rfl, hb1⟩)
  go_ret
  exact ⟨rfl, hb1⟩
end Go.Proofs.YthmbbiahnfpoeaaDoor
