import Derived.Test.YthmbbiahnfpoeaaDoorErrFacts
import Derived.WalkKit
import Derived.LaidEql
import Derived.Stop.Asserts
import Derived.RowKitTokens
import Derived.Deep.LoopGhost
namespace Go.Proofs.YthmbbiahnfpoeaaDoor
open Go.RowKit Go.Extern.Stop Go.Stop Go.Extern

theorem Tryd.load90 (nb p : Nat) (C : Value) (W : World) (h0 : W.cell? ⟨nb, 0, none⟩ = some (.int .i64 p)) (h1 : W.cell? ⟨nb, 1, none⟩ = some C) :
    (loadVar 90 ⟨nb, 0, none⟩).run Tryd.prog W = .ok (.agg #[.int .i64 p, C]) W := by
  have hs : (sizeOf 90).run Tryd.prog W = .ok 2 W := by kernel_rfl
  have ha : (isAgg 90).run Tryd.prog W = .ok true W := by kernel_rfl
  simp [loadVar, ha, hs, loadCells, loadCellsFrom, Addr.add, h0, h1, Result.andThen]
theorem Tryd.store90 (ab p : Nat) (x : Addr) (W : World) (o0 o1 : Value) (h0 : W.cell? ⟨ab, 0, none⟩ = some o0) (h1 : W.cell? ⟨ab, 1, none⟩ = some o1) (hf : ∀ o, W.frozen? ⟨ab, o, none⟩ = false) :
    (storeVar 90 ⟨ab, 0, none⟩ (.agg #[.int .i64 p, .iface 165 (.pointer (some x))])).run Tryd.prog W = .ok () ((W.setCell ⟨ab, 0, none⟩ (.int .i64 p)).setCell ⟨ab, 1, none⟩ (.iface 165 (.pointer (some x)))) := by
  have hs : (sizeOf 90).run Tryd.prog W = .ok 2 W := by kernel_rfl
  have hc : (Value.agg #[.int .i64 (p : Int), .iface 165 (.pointer (some x))]).cells = #[.int .i64 (p : Int), .iface 165 (.pointer (some x))] := by simp [Value.cells]
  simp [storeVar, hs, hc, storeCells, Addr.add, Result.andThen]
  rw [run_store Tryd.prog W ⟨ab, 0, none⟩ _ _ (by rfl)]
  simp [h0, hf]
  rw [run_store Tryd.prog _ ⟨ab, 1, none⟩ _ _ (by rfl)]
  simp [h1, hf, World.cell?_setCell_other]
theorem Tryd.set90 (ab nb p : Nat) (x : Addr) (W : World) (o0 o1 : Value) (b0 : W.cell? ⟨nb, 0, none⟩ = some (.int .i64 p)) (b1 : W.cell? ⟨nb, 1, none⟩ = some (.iface 165 (.pointer (some x))))
    (h0 : W.cell? ⟨ab, 0, none⟩ = some o0) (h1 : W.cell? ⟨ab, 1, none⟩ = some o1) (hf : ∀ o, W.frozen? ⟨ab, o, none⟩ = false) :
    (ReflectliteValue.set #[.agg #[.pointer (some ⟨15, 90, none⟩), .pointer (some ⟨ab, 0, none⟩), .int .u64 409], .agg #[.pointer (some ⟨15, 90, none⟩), .pointer (some ⟨nb, 0, none⟩), .int .u64 153]]).run Tryd.prog W
      = .ok (.tuple #[]) ((W.setCell ⟨ab, 0, none⟩ (.int .i64 p)).setCell ⟨ab, 1, none⟩ (.iface 165 (.pointer (some x)))) := by
  change Sem.run Tryd.prog (_ >>= _) W = _
  simp only [Sem.run_bind, Array.getLit, List.getElem_toArray, List.getElem_cons_zero, List.getElem_cons_succ, Tryd.parts90a, Tryd.parts90, Result.andThen]
  simp [ReflectliteValue.flagAddr, Tryd.load90 nb p _ W b0 b1, Tryd.direct90, Tryd.store90 ab p x W o0 o1 h0 h1 hf, Result.andThen]

theorem cell_a5 (w : World) (o1 o2 o3 o4 o5 : Obj) (a : Addr) (h : a.block < w.heap.size) : (((((w.alloc o1).alloc o2).alloc o3).alloc o4).alloc o5).cell? a = w.cell? a := by
  rw [World.cell?_alloc_lt _ _ a (by simp; omega), World.cell?_alloc_lt _ _ a (by simp; omega), World.cell?_alloc_lt _ _ a (by simp; omega), World.cell?_alloc_lt _ _ a (by simp; omega), World.cell?_alloc_lt _ _ a h]
theorem froz_a5 (w : World) (o1 o2 o3 o4 o5 : Obj) (a : Addr) (h : a.block < w.heap.size) : (((((w.alloc o1).alloc o2).alloc o3).alloc o4).alloc o5).frozen? a = w.frozen? a := by
  rw [World.frozen?_alloc_old _ _ a (by simp; omega), World.frozen?_alloc_old _ _ a (by simp; omega), World.frozen?_alloc_old _ _ a (by simp; omega), World.frozen?_alloc_old _ _ a (by simp; omega), World.frozen?_alloc_old _ _ a (Nat.ne_of_lt h)]
theorem grown_a5 (w : World) (o1 o2 o3 o4 o5 : Obj) (row : Option Nat) : w.grownBy (((((w.alloc o1).alloc o2).alloc o3).alloc o4).alloc o5) row :=
  grown_trans (grown_trans (grown_trans (grown_trans (World.grownBy_alloc _ _ _) (World.grownBy_alloc _ _ _)) (World.grownBy_alloc _ _ _)) (World.grownBy_alloc _ _ _)) (World.grownBy_alloc _ _ _)
set_option maxRecDepth 100000 in
set_option maxHeartbeats 4000000 in
theorem As_at (kd : ByteArray) (p ab : Nat) (x : Addr) (o0 o1 : Value) (w : World) (hg : w.cell? ⟨14, 0, none⟩ = some (.iface 147 (.agg #[.pointer (some ⟨15, 49, none⟩)])))
    (h0 : w.cell? ⟨ab, 0, none⟩ = some o0) (h1 : w.cell? ⟨ab, 1, none⟩ = some o1) (hf : ∀ o, w.frozen? ⟨ab, o, none⟩ = false) :
    Calls Tryd.prog 40 #[inV kd (atV p (.iface 165 (.pointer (some x)))), .iface 92 (.pointer (some ⟨ab, 0, none⟩))] w fun e w' => e = .returned (.bool true) ∧ w'.cell? ⟨ab, 0, none⟩ = some (.int .i64 p) ∧ w.grownBy w' (some ab) := by
  have g65 := @run_callFunc_extern Tryd.prog 65 _ (fun args => ReflectliteValue.unpack (args.getD 0 (.tuple #[]))) Tryd.func65 (by kernel_rfl) (by kernel_rfl) (by kernel_rfl) (by kernel_rfl)
  have g66 := @run_callFunc_extern Tryd.prog 66 _ (ReflectliteValue.methodAny (ReflectliteValue.valueError "reflectlite.Value.Type" 0) (fun t _ _ _ => ReflectliteType.toType t)) Tryd.func66 (by kernel_rfl) (by kernel_rfl) (by kernel_rfl) (by kernel_rfl)
  have g67 := @run_callFunc_extern Tryd.prog 67 _ (ReflectliteValue.method (ReflectliteValue.valueError "reflectlite.Value.IsNil" 0) ReflectliteValue.isNil) Tryd.func67 (by kernel_rfl) (by kernel_rfl) (by kernel_rfl) (by kernel_rfl)
  have g98 := @run_callFunc_extern Tryd.prog 98 _ (ReflectliteType.abiMethod fun t => do pure (.int .u8 (← Rtype.kind t))) Tryd.func98 (by kernel_rfl) (by kernel_rfl) (by kernel_rfl) (by kernel_rfl)
  have g111 := @run_callFunc_extern Tryd.prog 111 _ (ReflectliteType.method ReflectliteType.elem) Tryd.func111 (by kernel_rfl) (by kernel_rfl) (by kernel_rfl) (by kernel_rfl)
  have g112 := @run_callFunc_extern Tryd.prog 112 _ (ReflectliteType.relation "Implements" ReflectliteType.implements_) Tryd.func112 (by kernel_rfl) (by kernel_rfl) (by kernel_rfl) (by kernel_rfl)
  have g63 := @run_callFunc_extern Tryd.prog 63 _ ReflectliteType.typeOf Tryd.func63 (by kernel_rfl) (by kernel_rfl) (by kernel_rfl) (by kernel_rfl)
  have g109 := @run_callFunc_extern Tryd.prog 109 _ (ReflectliteType.relation "AssignableTo" ReflectliteType.assignableTo) Tryd.func109 (by kernel_rfl) (by kernel_rfl) (by kernel_rfl) (by kernel_rfl)
  have g79 := @run_callFunc_extern Tryd.prog 79 _ (ReflectliteValue.method (ReflectliteValue.valueError "reflectlite.Value.Elem" 0) ReflectliteValue.elem) Tryd.func79 (by kernel_rfl) (by kernel_rfl) (by kernel_rfl) (by kernel_rfl)
  have g80 := @run_callFunc_extern Tryd.prog 80 _ ReflectliteValue.set Tryd.func80 (by kernel_rfl) (by kernel_rfl) (by kernel_rfl) (by kernel_rfl)
  have f1 := Tryd.valueOf92
  have f2 := Tryd.type92
  have f3 := Tryd.mKind
  have f4 := Tryd.kind92
  have f5 := Tryd.kind90
  have f6 := Tryd.mElem
  have f7 := Tryd.mImplements
  have f8 := Tryd.mAssignableTo
  have f9 := Tryd.elem92
  have f10 := Tryd.implements90
  have f11 := Tryd.tO112
  have f12 := Tryd.tO90
  have f13 := Tryd.as112
  have f14 := Tryd.as90
  have f15 := Tryd.valueOf90
  have f16 := Tryd.noAs112
  have f17 := Tryd.un112
  have f18 := Tryd.mUn112
  have hlt : 14 < w.heap.size := World.block_lt_of_cell? w _ hg
  have hal : ab < w.heap.size := World.block_lt_of_cell? w _ h0
  have n8 := Tryd.isNil92 ⟨w.heap.size, 0, none⟩ ⟨ab, 0, none⟩ ((w.alloc (.cells #[.pointer (some ⟨ab, 0, none⟩)] 92)).alloc (.cells #[.pointer (some ⟨15, 92, none⟩), .pointer (some ⟨w.heap.size, 0, none⟩), .int .u64 150] 133)) (by simp)
  have hg2 : ((w.alloc (.cells #[.pointer (some ⟨ab, 0, none⟩)] 92)).alloc (.cells #[.pointer (some ⟨15, 92, none⟩), .pointer (some ⟨w.heap.size, 0, none⟩), .int .u64 150] 133)).cell? ⟨14, 0, none⟩ = some (.iface 147 (.agg #[.pointer (some ⟨15, 49, none⟩)])) := by
    rw [World.cell?_alloc_lt _ _ ⟨14, 0, none⟩ (by simp; omega), World.cell?_alloc_lt _ _ ⟨14, 0, none⟩ hlt]; exact hg
  have el := Tryd.elemV92 ⟨w.heap.size, 0, none⟩ ⟨ab, 0, none⟩ ((((w.alloc (.cells #[.pointer (some ⟨ab, 0, none⟩)] 92)).alloc (.cells #[.pointer (some ⟨15, 92, none⟩), .pointer (some ⟨w.heap.size, 0, none⟩), .int .u64 150] 133)).alloc (.cells #[.pointer (some ⟨15, 92, none⟩), .pointer (some ⟨w.heap.size, 0, none⟩), .int .u64 150] 133)).alloc (.cells #[.string kd, .iface 90 (.agg #[.int .i64 p, .iface 165 (.pointer (some x))])] 112))
    (by rw [World.cell?_alloc_lt _ _ _ (by simp; omega), World.cell?_alloc_lt _ _ _ (by simp; omega), World.cell?_alloc_lt _ _ _ (by simp)]; simp)
  have st := Tryd.set90 ab (w.heap.size + 1 + 1 + 1 + 1) p x (((((w.alloc (.cells #[.pointer (some ⟨ab, 0, none⟩)] 92)).alloc (.cells #[.pointer (some ⟨15, 92, none⟩), .pointer (some ⟨w.heap.size, 0, none⟩), .int .u64 150] 133)).alloc (.cells #[.pointer (some ⟨15, 92, none⟩), .pointer (some ⟨w.heap.size, 0, none⟩), .int .u64 150] 133)).alloc (.cells #[.string kd, .iface 90 (.agg #[.int .i64 p, .iface 165 (.pointer (some x))])] 112)).alloc (.cells #[.int .i64 p, .iface 165 (.pointer (some x))] 90)) o0 o1
    (by rw [World.cell?_alloc_at _ _ _ _ (by simp)]; rfl) (by rw [World.cell?_alloc_at _ _ _ _ (by simp)]; rfl)
    (by rw [cell_a5 _ _ _ _ _ _ _ hal]; exact h0) (by rw [cell_a5 _ _ _ _ _ _ _ hal]; exact h1) (fun o => by rw [froz_a5 _ _ _ _ _ _ _ hal]; exact hf o)
  have FIN : Hid (∀ W, W = (((((((w.alloc (.cells #[.pointer (some ⟨ab, 0, none⟩)] 92)).alloc (.cells #[.pointer (some ⟨15, 92, none⟩), .pointer (some ⟨w.heap.size, 0, none⟩), .int .u64 150] 133)).alloc (.cells #[.pointer (some ⟨15, 92, none⟩), .pointer (some ⟨w.heap.size, 0, none⟩), .int .u64 150] 133)).alloc (.cells #[.string kd, .iface 90 (.agg #[.int .i64 p, .iface 165 (.pointer (some x))])] 112)).alloc (.cells #[.int .i64 p, .iface 165 (.pointer (some x))] 90)).setCell ⟨ab, 0, none⟩ (.int .i64 p)).setCell ⟨ab, 1, none⟩ (.iface 165 (.pointer (some x)))) → W.cell? ⟨ab, 0, none⟩ = some (.int .i64 p) ∧ w.grownBy W (some ab)) := by
    rintro W rfl
    refine ⟨?_, grown_trans (grown_a5 w _ _ _ _ _ _) (grown_trans (grown_set _ _ _ _) (grown_set _ _ _ _))⟩
    rw [World.cell?_setCell_other _ _ _ _ (by simp)]
    exact World.cell?_setCell_same _ _ _ (by rw [cell_a5 _ _ _ _ _ _ _ hal]; exact h0)
  clear h0 h1 hf hg
  unfold inV atV
  go_enter Tryd.func40, Tryd.ntmps40
  go_wp2
  refine wp_loop_rounds 2 ?_
  rw [rounds_succ]
  go_wp2
  rw [rounds_succ]
  go_wp2
  go_ret
  exact ⟨rfl, FIN.out _ rfl⟩
end Go.Proofs.YthmbbiahnfpoeaaDoor
