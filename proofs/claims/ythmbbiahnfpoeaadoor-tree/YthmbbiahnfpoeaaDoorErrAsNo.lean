import Derived.Test.YthmbbiahnfpoeaaDoorErrFacts
import Derived.WalkKit
import Derived.LaidEql
import Derived.Stop.Asserts
import Derived.RowKitTokens
import Derived.Deep.LoopGhost
namespace Go.Proofs.YthmbbiahnfpoeaaDoor
open Go.RowKit Go.Extern.Stop Go.Stop Go.Extern

theorem As_nil (t : Value) (w : World) : Calls Tryd.prog 40 #[.nilIface, t] w fun e w' => e = .returned (.bool false) ∧ w' = w := by
  go_enter Tryd.func40, Tryd.ntmps40
  go_wp2
  go_ret
  exact ⟨rfl, rfl⟩
set_option maxRecDepth 100000 in
set_option maxHeartbeats 4000000 in
theorem As_in (kd : ByteArray) (ab : Nat) (x : Addr) (w : World) (hg : w.cell? ⟨14, 0, none⟩ = some (.iface 147 (.agg #[.pointer (some ⟨15, 49, none⟩)]))) :
    Calls Tryd.prog 40 #[inV kd (.iface 165 (.pointer (some x))), .iface 92 (.pointer (some ⟨ab, 0, none⟩))] w fun e w' => e = .returned (.bool false) ∧ Below w.heap.size w w' := by
  have g65 := @run_callFunc_extern Tryd.prog 65 _ (fun args => ReflectliteValue.unpack (args.getD 0 (.tuple #[]))) Tryd.func65 (by kernel_rfl) (by kernel_rfl) (by kernel_rfl) (by kernel_rfl)
  have g66 := @run_callFunc_extern Tryd.prog 66 _ (ReflectliteValue.methodAny (ReflectliteValue.valueError "reflectlite.Value.Type" 0) (fun t _ _ _ => ReflectliteType.toType t)) Tryd.func66 (by kernel_rfl) (by kernel_rfl) (by kernel_rfl) (by kernel_rfl)
  have g67 := @run_callFunc_extern Tryd.prog 67 _ (ReflectliteValue.method (ReflectliteValue.valueError "reflectlite.Value.IsNil" 0) ReflectliteValue.isNil) Tryd.func67 (by kernel_rfl) (by kernel_rfl) (by kernel_rfl) (by kernel_rfl)
  have g98 := @run_callFunc_extern Tryd.prog 98 _ (ReflectliteType.abiMethod fun t => do pure (.int .u8 (← Rtype.kind t))) Tryd.func98 (by kernel_rfl) (by kernel_rfl) (by kernel_rfl) (by kernel_rfl)
  have g111 := @run_callFunc_extern Tryd.prog 111 _ (ReflectliteType.method ReflectliteType.elem) Tryd.func111 (by kernel_rfl) (by kernel_rfl) (by kernel_rfl) (by kernel_rfl)
  have g112 := @run_callFunc_extern Tryd.prog 112 _ (ReflectliteType.relation "Implements" ReflectliteType.implements_) Tryd.func112 (by kernel_rfl) (by kernel_rfl) (by kernel_rfl) (by kernel_rfl)
  have g63 := @run_callFunc_extern Tryd.prog 63 _ ReflectliteType.typeOf Tryd.func63 (by kernel_rfl) (by kernel_rfl) (by kernel_rfl) (by kernel_rfl)
  have g109 := @run_callFunc_extern Tryd.prog 109 _ (ReflectliteType.relation "AssignableTo" ReflectliteType.assignableTo) Tryd.func109 (by kernel_rfl) (by kernel_rfl) (by kernel_rfl) (by kernel_rfl)
  have f1 := Tryd.valueOf92
  have f2 := Tryd.type92
  have f3 := Tryd.mKind
  have f4 := Tryd.kind92
  have f5 := Tryd.kind90
  have f6 := Tryd.mElem
  have f7 := Tryd.mImplements
  have f8 := Tryd.mAssignableTo
  have f9 := Tryd.elem92
  have f10 := Tryd.implements90
  have f11 := Tryd.tO112
  have f12 := Tryd.tO165
  have f13 := Tryd.as112
  have f14 := Tryd.as165
  have f16 := Tryd.noAs112
  have f16' := Tryd.noAs165
  have f17 := Tryd.un112
  have f18 := Tryd.mUn112
  have f19 := Tryd.noUn165
  have f20 := Tryd.noUns165
  have hlt : 14 < w.heap.size := World.block_lt_of_cell? w _ hg
  have n8 := Tryd.isNil92 ⟨w.heap.size, 0, none⟩ ⟨ab, 0, none⟩ ((w.alloc (.cells #[.pointer (some ⟨ab, 0, none⟩)] 92)).alloc (.cells #[.pointer (some ⟨15, 92, none⟩), .pointer (some ⟨w.heap.size, 0, none⟩), .int .u64 150] 133)) (by simp)
  have hg2 : ((w.alloc (.cells #[.pointer (some ⟨ab, 0, none⟩)] 92)).alloc (.cells #[.pointer (some ⟨15, 92, none⟩), .pointer (some ⟨w.heap.size, 0, none⟩), .int .u64 150] 133)).cell? ⟨14, 0, none⟩ = some (.iface 147 (.agg #[.pointer (some ⟨15, 49, none⟩)])) := by
    rw [World.cell?_alloc_lt _ _ ⟨14, 0, none⟩ (by simp; omega), World.cell?_alloc_lt _ _ ⟨14, 0, none⟩ hlt]; exact hg
  clear hg
  unfold inV
  go_enter Tryd.func40, Tryd.ntmps40
  go_wp2
  refine wp_loop_rounds 2 ?_
  rw [rounds_succ]
  go_wp2
  rw [rounds_succ]
  go_wp2
  go_ret
  exact ⟨rfl, ((((Below.refl _ _).alloc (Nat.le_refl _) _).alloc (by simp only [World.size_alloc]; omega) _).alloc (by simp only [World.size_alloc]; omega) _).alloc (by simp only [World.size_alloc]; omega) _⟩
end Go.Proofs.YthmbbiahnfpoeaaDoor
