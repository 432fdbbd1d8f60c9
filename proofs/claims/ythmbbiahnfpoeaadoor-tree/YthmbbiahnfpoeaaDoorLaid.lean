import Derived.Test.YthmbbiahnfpoeaaDoorCheck
import Derived.Test.YthmbbiahnfpoeaaDoorRows
import Derived.LaidLaws
import Derived.LaidHandle
import Derived.Stop.ErrReads
namespace Go.Proofs.YthmbbiahnfpoeaaDoor
open Go.ChangeShapes Go.WideShapes Go.RowKit

theorem own : ownKnob Tryd.prog.godebug = none := by kernel_rfl
theorem g0n : Tryd.prog.globalNamed "shift/fault.Long" = some 0 := by kernel_rfl
theorem g1n : Tryd.prog.globalNamed "shift/fault.Text" = some 1 := by kernel_rfl
theorem g2n : Tryd.prog.globalNamed "shift/fault.Name" = some 2 := by kernel_rfl
theorem g3n : Tryd.prog.globalNamed "shift/fault.Barren" = some 3 := by kernel_rfl
theorem g4n : Tryd.prog.globalNamed "shift/fault.Letter" = some 4 := by kernel_rfl
theorem g5n : Tryd.prog.globalNamed "shift/fault.Table" = some 5 := by kernel_rfl
theorem g6n : Tryd.prog.globalNamed "shift/fault.Item" = some 6 := by kernel_rfl
theorem g7n : Tryd.prog.globalNamed "shift/fault.Start" = some 7 := by kernel_rfl
theorem g8n : Tryd.prog.globalNamed "shift/fault.Closed" = some 8 := by kernel_rfl
theorem g9n : Tryd.prog.globalNamed "shift/fault.Edge" = some 9 := by kernel_rfl
theorem g10n : Tryd.prog.globalNamed "shift/fault.Reason" = some 10 := by kernel_rfl
theorem g11n : Tryd.prog.globalNamed "shift/fault.Clash" = some 11 := by kernel_rfl
theorem g12n : Tryd.prog.globalNamed "shift/fault.None" = some 12 := by kernel_rfl
theorem g13n : Tryd.prog.globalNamed "shift/fault.Reject" = some 13 := by kernel_rfl
theorem g14n : Tryd.prog.globalNamed "errors.errorType" = some 14 := by kernel_rfl
theorem g0t : (Tryd.prog.globals[0]?).map (·.type) = some 49 := by kernel_rfl
theorem g1t : (Tryd.prog.globals[1]?).map (·.type) = some 49 := by kernel_rfl
theorem g2t : (Tryd.prog.globals[2]?).map (·.type) = some 49 := by kernel_rfl
theorem g3t : (Tryd.prog.globals[3]?).map (·.type) = some 49 := by kernel_rfl
theorem g4t : (Tryd.prog.globals[4]?).map (·.type) = some 49 := by kernel_rfl
theorem g5t : (Tryd.prog.globals[5]?).map (·.type) = some 49 := by kernel_rfl
theorem g6t : (Tryd.prog.globals[6]?).map (·.type) = some 49 := by kernel_rfl
theorem g7t : (Tryd.prog.globals[7]?).map (·.type) = some 49 := by kernel_rfl
theorem g8t : (Tryd.prog.globals[8]?).map (·.type) = some 49 := by kernel_rfl
theorem g9t : (Tryd.prog.globals[9]?).map (·.type) = some 49 := by kernel_rfl
theorem g10t : (Tryd.prog.globals[10]?).map (·.type) = some 49 := by kernel_rfl
theorem g11t : (Tryd.prog.globals[11]?).map (·.type) = some 49 := by kernel_rfl
theorem g12t : (Tryd.prog.globals[12]?).map (·.type) = some 49 := by kernel_rfl
theorem g13t : (Tryd.prog.globals[13]?).map (·.type) = some 49 := by kernel_rfl
theorem cells186 : Tryd.prog.cellsOf 186 = 1 := by kernel_rfl
theorem cells9 : Tryd.prog.cellsOf 9 = 1 := by kernel_rfl
theorem starE : "*" ++ "errors.errorString" = "*errors.errorString" := by decide
theorem row165 (u : TypeId) (h : Tryd.prog.typeName? 3 u = some "*errors.errorString") : u = 165 :=
  typeName_ptr_named (nm := "errors.errorString") (by rw [starE]; kernel_rfl) (by kernel_rfl) (by decide) u (by rw [starE]; exact h)
theorem rt147 : (Tryd.prog.cutTypes.find? (·.1 == "internal/reflectlite.rtype")).map (·.2) = some 147 := by kernel_rfl
theorem oneRow : ((List.range 198).filter fun t => Tryd.prog.rowNamed t [101, 114, 114, 111, 114]) = [49] := by kernel_rfl
theorem sizeT : Tryd.prog.types.size = 198 := by kernel_rfl

def laidS : List (String × DataW Unit) := [("shift/fault.Long", Rows.laid_shift_fault_Long), ("shift/fault.Text", Rows.laid_shift_fault_Text), ("shift/fault.Name", Rows.laid_shift_fault_Name), ("shift/fault.Barren", Rows.laid_shift_fault_Barren), ("shift/fault.Letter", Rows.laid_shift_fault_Letter), ("shift/fault.Table", Rows.laid_shift_fault_Table), ("shift/fault.Item", Rows.laid_shift_fault_Item), ("shift/fault.Start", Rows.laid_shift_fault_Start), ("shift/fault.Closed", Rows.laid_shift_fault_Closed), ("shift/fault.Edge", Rows.laid_shift_fault_Edge), ("shift/fault.Reason", Rows.laid_shift_fault_Reason), ("shift/fault.Clash", Rows.laid_shift_fault_Clash), ("shift/fault.None", Rows.laid_shift_fault_None), ("shift/fault.Reject", Rows.laid_shift_fault_Reject)]
def laidAll : List (String × DataW Unit) := ("errors.errorType", Rows.laid_errors_errorType) :: laidS

theorem handle_of {W : World} (h : handlesMet Tryd.prog [("errors.errorType", Rows.laid_errors_errorType)] W) : W.cell? ⟨14, 0, none⟩ = some (.iface 147 (.agg #[.pointer (some ⟨15, 49, none⟩)])) := by
  obtain ⟨name, u, ty, e1, e2, e3, e4, e5⟩ := h _ (List.mem_singleton.2 rfl)
  have en : name = [101, 114, 114, 111, 114] := (Option.some.inj e1).symm
  subst en
  obtain rfl := Option.some.inj (rt147.symm.trans e2)
  have hm : ty ∈ (List.range 198).filter fun t => Tryd.prog.rowNamed t [101, 114, 114, 111, 114] := List.mem_filter.2 ⟨List.mem_range.2 (by rw [← sizeT]; exact e3), e4⟩
  rw [oneRow] at hm
  obtain rfl := List.mem_singleton.1 hm
  have hh : typeHandle Tryd.prog 49 = .pointer (some ⟨15, 49, none⟩) := by kernel_rfl
  rw [hh] at e5
  simpa using World.var?_cell g14n e5 0

set_option maxRecDepth 1000000 in
set_option maxHeartbeats 2000000 in
theorem sentinels_of {W : World} (h : laidMet Tryd.prog laidS W) (hE : W.cell? ⟨14, 0, none⟩ = some (.iface 147 (.agg #[.pointer (some ⟨15, 49, none⟩)]))) :
    ∃ x0 x1 x2 x3 x4 : Addr, Laid W x0 x1 x2 x3 x4 ∧ x1 ≠ x0 ∧ x2 ≠ x0 ∧ x2 ≠ x1 ∧ x3 ≠ x0 ∧ x3 ≠ x1 ∧ x3 ≠ x2 ∧ x4 ≠ x0 ∧ x4 ≠ x1 ∧ x4 ≠ x2 ∧ x4 ≠ x3 := by
  obtain ⟨ps, ⟨g0, t0, cs0, f0, p0, q0, hg0, ht0, hv0, hd0, ⟨g1, t1, cs1, f1, p1, q1, hg1, ht1, hv1, hd1, ⟨g2, t2, cs2, f2, p2, q2, hg2, ht2, hv2, hd2, ⟨g3, t3, cs3, f3, p3, q3, hg3, ht3, hv3, hd3, ⟨g4, t4, cs4, f4, p4, q4, hg4, ht4, hv4, hd4, ⟨g5, t5, cs5, f5, p5, q5, hg5, ht5, hv5, hd5, ⟨g6, t6, cs6, f6, p6, q6, hg6, ht6, hv6, hd6, ⟨g7, t7, cs7, f7, p7, q7, hg7, ht7, hv7, hd7, ⟨g8, t8, cs8, f8, p8, q8, hg8, ht8, hv8, hd8, ⟨g9, t9, cs9, f9, p9, q9, hg9, ht9, hv9, hd9, ⟨g10, t10, cs10, f10, p10, q10, hg10, ht10, hv10, hd10, ⟨g11, t11, cs11, f11, p11, q11, hg11, ht11, hv11, hd11, ⟨g12, t12, cs12, f12, p12, q12, hg12, ht12, hv12, hd12, ⟨g13, t13, cs13, f13, p13, q13, hg13, ht13, hv13, hd13, hq13, e13⟩, e12⟩, e11⟩, e10⟩, e9⟩, e8⟩, e7⟩, e6⟩, e5⟩, e4⟩, e3⟩, e2⟩, e1⟩, e0⟩, hnd, hrows⟩ := h
  obtain rfl := Option.some.inj (g0n.symm.trans hg0)
  obtain rfl := Option.some.inj (g1n.symm.trans hg1)
  obtain rfl := Option.some.inj (g2n.symm.trans hg2)
  obtain rfl := Option.some.inj (g3n.symm.trans hg3)
  obtain rfl := Option.some.inj (g4n.symm.trans hg4)
  obtain rfl := Option.some.inj (g5n.symm.trans hg5)
  obtain rfl := Option.some.inj (g6n.symm.trans hg6)
  obtain rfl := Option.some.inj (g7n.symm.trans hg7)
  obtain rfl := Option.some.inj (g8n.symm.trans hg8)
  obtain rfl := Option.some.inj (g9n.symm.trans hg9)
  obtain rfl := Option.some.inj (g10n.symm.trans hg10)
  obtain rfl := Option.some.inj (g11n.symm.trans hg11)
  obtain rfl := Option.some.inj (g12n.symm.trans hg12)
  obtain rfl := Option.some.inj (g13n.symm.trans hg13)
  obtain rfl := Option.some.inj (g0t.symm.trans ht0)
  obtain rfl := Option.some.inj (g1t.symm.trans ht1)
  obtain rfl := Option.some.inj (g2t.symm.trans ht2)
  obtain rfl := Option.some.inj (g3t.symm.trans ht3)
  obtain rfl := Option.some.inj (g4t.symm.trans ht4)
  obtain rfl := Option.some.inj (g5t.symm.trans ht5)
  obtain rfl := Option.some.inj (g6t.symm.trans ht6)
  obtain rfl := Option.some.inj (g7t.symm.trans ht7)
  obtain rfl := Option.some.inj (g8t.symm.trans ht8)
  obtain rfl := Option.some.inj (g9t.symm.trans ht9)
  obtain rfl := Option.some.inj (g10t.symm.trans ht10)
  obtain rfl := Option.some.inj (g11t.symm.trans ht11)
  obtain rfl := Option.some.inj (g12t.symm.trans ht12)
  obtain rfl := Option.some.inj (g13t.symm.trans ht13)
  have hq' : q13 = [] := hq13
  subst hq'
  subst e13
  subst e12
  subst e11
  subst e10
  subst e9
  subst e8
  subst e7
  subst e6
  subst e5
  subst e4
  subst e3
  subst e2
  subst e1
  subst e0
  obtain ⟨l0⟩ := cs0
  obtain ⟨l1⟩ := cs1
  obtain ⟨l2⟩ := cs2
  obtain ⟨l3⟩ := cs3
  obtain ⟨l4⟩ := cs4
  obtain ⟨l5⟩ := cs5
  obtain ⟨l6⟩ := cs6
  obtain ⟨l7⟩ := cs7
  obtain ⟨l8⟩ := cs8
  obtain ⟨l9⟩ := cs9
  obtain ⟨l10⟩ := cs10
  obtain ⟨l11⟩ := cs11
  obtain ⟨l12⟩ := cs12
  obtain ⟨l13⟩ := cs13
  have ok0 : ∀ u v, l0 = [.iface u v] → Value.okWide Tryd.prog W .any 0 u v := fun u v e => by
    subst e; exact (hrows 0 0 (by simp [MemPlace.row])).2 u v (by simpa using World.var?_cell hg0 hv0 0)
  have ok1 : ∀ u v, l1 = [.iface u v] → Value.okWide Tryd.prog W .any 0 u v := fun u v e => by
    subst e; exact (hrows 1 0 (by simp [MemPlace.row])).2 u v (by simpa using World.var?_cell hg1 hv1 0)
  have ok2 : ∀ u v, l2 = [.iface u v] → Value.okWide Tryd.prog W .any 0 u v := fun u v e => by
    subst e; exact (hrows 2 0 (by simp [MemPlace.row])).2 u v (by simpa using World.var?_cell hg2 hv2 0)
  have ok3 : ∀ u v, l3 = [.iface u v] → Value.okWide Tryd.prog W .any 0 u v := fun u v e => by
    subst e; exact (hrows 3 0 (by simp [MemPlace.row])).2 u v (by simpa using World.var?_cell hg3 hv3 0)
  have ok4 : ∀ u v, l4 = [.iface u v] → Value.okWide Tryd.prog W .any 0 u v := fun u v e => by
    subst e; exact (hrows 4 0 (by simp [MemPlace.row])).2 u v (by simpa using World.var?_cell hg4 hv4 0)
  have ok5 : ∀ u v, l5 = [.iface u v] → Value.okWide Tryd.prog W .any 0 u v := fun u v e => by
    subst e; exact (hrows 5 0 (by simp [MemPlace.row])).2 u v (by simpa using World.var?_cell hg5 hv5 0)
  have ok6 : ∀ u v, l6 = [.iface u v] → Value.okWide Tryd.prog W .any 0 u v := fun u v e => by
    subst e; exact (hrows 6 0 (by simp [MemPlace.row])).2 u v (by simpa using World.var?_cell hg6 hv6 0)
  have ok7 : ∀ u v, l7 = [.iface u v] → Value.okWide Tryd.prog W .any 0 u v := fun u v e => by
    subst e; exact (hrows 7 0 (by simp [MemPlace.row])).2 u v (by simpa using World.var?_cell hg7 hv7 0)
  have ok8 : ∀ u v, l8 = [.iface u v] → Value.okWide Tryd.prog W .any 0 u v := fun u v e => by
    subst e; exact (hrows 8 0 (by simp [MemPlace.row])).2 u v (by simpa using World.var?_cell hg8 hv8 0)
  have ok9 : ∀ u v, l9 = [.iface u v] → Value.okWide Tryd.prog W .any 0 u v := fun u v e => by
    subst e; exact (hrows 9 0 (by simp [MemPlace.row])).2 u v (by simpa using World.var?_cell hg9 hv9 0)
  have ok10 : ∀ u v, l10 = [.iface u v] → Value.okWide Tryd.prog W .any 0 u v := fun u v e => by
    subst e; exact (hrows 10 0 (by simp [MemPlace.row])).2 u v (by simpa using World.var?_cell hg10 hv10 0)
  have ok11 : ∀ u v, l11 = [.iface u v] → Value.okWide Tryd.prog W .any 0 u v := fun u v e => by
    subst e; exact (hrows 11 0 (by simp [MemPlace.row])).2 u v (by simpa using World.var?_cell hg11 hv11 0)
  have ok12 : ∀ u v, l12 = [.iface u v] → Value.okWide Tryd.prog W .any 0 u v := fun u v e => by
    subst e; exact (hrows 12 0 (by simp [MemPlace.row])).2 u v (by simpa using World.var?_cell hg12 hv12 0)
  have ok13 : ∀ u v, l13 = [.iface u v] → Value.okWide Tryd.prog W .any 0 u v := fun u v e => by
    subst e; exact (hrows 13 0 (by simp [MemPlace.row])).2 u v (by simpa using World.var?_cell hg13 hv13 0)
  obtain ⟨a0, s0, rfl, hc0, -, -, rfl⟩ := errorString_of_trod Tryd.underlying49 row165 Tryd.underlying165 Tryd.underlying186 rfl rfl Tryd.underlying9 cells186 cells9 hd0 ok0
  obtain ⟨a1, s1, rfl, hc1, -, -, rfl⟩ := errorString_of_trod Tryd.underlying49 row165 Tryd.underlying165 Tryd.underlying186 rfl rfl Tryd.underlying9 cells186 cells9 hd1 ok1
  obtain ⟨a2, s2, rfl, hc2, -, -, rfl⟩ := errorString_of_trod Tryd.underlying49 row165 Tryd.underlying165 Tryd.underlying186 rfl rfl Tryd.underlying9 cells186 cells9 hd2 ok2
  obtain ⟨a3, s3, rfl, hc3, -, -, rfl⟩ := errorString_of_trod Tryd.underlying49 row165 Tryd.underlying165 Tryd.underlying186 rfl rfl Tryd.underlying9 cells186 cells9 hd3 ok3
  obtain ⟨a4, s4, rfl, hc4, -, -, rfl⟩ := errorString_of_trod Tryd.underlying49 row165 Tryd.underlying165 Tryd.underlying186 rfl rfl Tryd.underlying9 cells186 cells9 hd4 ok4
  obtain ⟨a5, s5, rfl, hc5, -, -, rfl⟩ := errorString_of_trod Tryd.underlying49 row165 Tryd.underlying165 Tryd.underlying186 rfl rfl Tryd.underlying9 cells186 cells9 hd5 ok5
  obtain ⟨a6, s6, rfl, hc6, -, -, rfl⟩ := errorString_of_trod Tryd.underlying49 row165 Tryd.underlying165 Tryd.underlying186 rfl rfl Tryd.underlying9 cells186 cells9 hd6 ok6
  obtain ⟨a7, s7, rfl, hc7, -, -, rfl⟩ := errorString_of_trod Tryd.underlying49 row165 Tryd.underlying165 Tryd.underlying186 rfl rfl Tryd.underlying9 cells186 cells9 hd7 ok7
  obtain ⟨a8, s8, rfl, hc8, -, -, rfl⟩ := errorString_of_trod Tryd.underlying49 row165 Tryd.underlying165 Tryd.underlying186 rfl rfl Tryd.underlying9 cells186 cells9 hd8 ok8
  obtain ⟨a9, s9, rfl, hc9, -, -, rfl⟩ := errorString_of_trod Tryd.underlying49 row165 Tryd.underlying165 Tryd.underlying186 rfl rfl Tryd.underlying9 cells186 cells9 hd9 ok9
  obtain ⟨a10, s10, rfl, hc10, -, -, rfl⟩ := errorString_of_trod Tryd.underlying49 row165 Tryd.underlying165 Tryd.underlying186 rfl rfl Tryd.underlying9 cells186 cells9 hd10 ok10
  obtain ⟨a11, s11, rfl, hc11, -, -, rfl⟩ := errorString_of_trod Tryd.underlying49 row165 Tryd.underlying165 Tryd.underlying186 rfl rfl Tryd.underlying9 cells186 cells9 hd11 ok11
  obtain ⟨a12, s12, rfl, hc12, -, -, rfl⟩ := errorString_of_trod Tryd.underlying49 row165 Tryd.underlying165 Tryd.underlying186 rfl rfl Tryd.underlying9 cells186 cells9 hd12 ok12
  obtain ⟨a13, s13, rfl, hc13, -, -, rfl⟩ := errorString_of_trod Tryd.underlying49 row165 Tryd.underlying165 Tryd.underlying186 rfl rfl Tryd.underlying9 cells186 cells9 hd13 ok13
  obtain ⟨c0, t0, hb0⟩ := (hrows a0.block a0.off (by simp [MemPlace.row])).1
  obtain ⟨c1, t1, hb1⟩ := (hrows a1.block a1.off (by simp [MemPlace.row])).1
  obtain ⟨c2, t2, hb2⟩ := (hrows a2.block a2.off (by simp [MemPlace.row])).1
  obtain ⟨c3, t3, hb3⟩ := (hrows a3.block a3.off (by simp [MemPlace.row])).1
  obtain ⟨c4, t4, hb4⟩ := (hrows a4.block a4.off (by simp [MemPlace.row])).1
  have more : ∀ k, 5 ≤ k → k < 14 → ∃ x : Addr, W.cell? ⟨k, 0, none⟩ = some (.iface 165 (.pointer (some x))) := by
    intro k h5 hm
    match k, h5, hm with
    | 5, _, _ => exact ⟨a5, by simpa using World.var?_cell hg5 hv5 0⟩
    | 6, _, _ => exact ⟨a6, by simpa using World.var?_cell hg6 hv6 0⟩
    | 7, _, _ => exact ⟨a7, by simpa using World.var?_cell hg7 hv7 0⟩
    | 8, _, _ => exact ⟨a8, by simpa using World.var?_cell hg8 hv8 0⟩
    | 9, _, _ => exact ⟨a9, by simpa using World.var?_cell hg9 hv9 0⟩
    | 10, _, _ => exact ⟨a10, by simpa using World.var?_cell hg10 hv10 0⟩
    | 11, _, _ => exact ⟨a11, by simpa using World.var?_cell hg11 hv11 0⟩
    | 12, _, _ => exact ⟨a12, by simpa using World.var?_cell hg12 hv12 0⟩
    | 13, _, _ => exact ⟨a13, by simpa using World.var?_cell hg13 hv13 0⟩
    | k + 14, _, h => exact absurd h (by omega)
  refine ⟨a0, a1, a2, a3, a4, ⟨by simpa using World.var?_cell hg0 hv0 0, by simpa using World.var?_cell hg1 hv1 0, by simpa using World.var?_cell hg2 hv2 0, by simpa using World.var?_cell hg3 hv3 0, by simpa using World.var?_cell hg4 hv4 0, hE,
    ⟨c0, t0, hb0⟩, ⟨c1, t1, hb1⟩, ⟨c2, t2, hb2⟩, ⟨c3, t3, hb3⟩, ⟨c4, t4, hb4⟩, more⟩, ?_⟩
  clear more
  refine ⟨?_, ?_, ?_, ?_, ?_, ?_, ?_, ?_, ?_, ?_⟩ <;> (rintro rfl; simp [MemPlace.row] at hnd)

set_option maxRecDepth 1000000 in
theorem laid_of {W : World} (h : laidMetH Tryd.prog laidAll W) :
    ∃ x0 x1 x2 x3 x4 : Addr, Laid W x0 x1 x2 x3 x4 ∧ x1 ≠ x0 ∧ x2 ≠ x0 ∧ x2 ≠ x1 ∧ x3 ≠ x0 ∧ x3 ≠ x1 ∧ x3 ≠ x2 ∧ x4 ≠ x0 ∧ x4 ≠ x1 ∧ x4 ≠ x2 ∧ x4 ≠ x3 := by
  have h' : laidMet Tryd.prog laidS W ∧ handlesMet Tryd.prog [("errors.errorType", Rows.laid_errors_errorType)] W := h
  exact sentinels_of h'.1 (handle_of h'.2)
end Go.Proofs.YthmbbiahnfpoeaaDoor
