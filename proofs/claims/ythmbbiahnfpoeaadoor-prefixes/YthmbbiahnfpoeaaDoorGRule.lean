import Derived.Test.YthmbbiahnfpoeaaDoorProg
import Derived.Test.YthmbbiahnfpoeaaDoorRuns
import Derived.WalkKit
import Derived.WalkSpells
import Derived.WalkSmall
import Derived.BigQuiet
import Derived.Deep.QuietTactic
import Derived.Deep.RegionWith
import Derived.Deep.LoopGhost
import Derived.Deep.RegionHeld3
import Derived.Deep.DeepCutAuto
namespace Go.Proofs.YthmbbiahnfpoeaaDoor
open Go.RowKit

theorem undrew {w w' : World} {row : Option Nat} (h : w.drew.grownBy w' row) : w.grownBy w' row := ⟨h.os, h.tape, h.output, h.size, h.block⟩
theorem grown_new {w w1 : World} {row : Option Nat} (h : w.grownBy w1 row) {g : Nat} (hg : w.heap.size ≤ g) (o : Nat) (v : Value) : w.grownBy (w1.setCell ⟨g, o, none⟩ v) row :=
  ⟨h.os, h.tape, h.output, by simpa using h.size, fun k hk hn => (Below.heap_setCell _ _ _ _ (by simp; omega)).trans (h.block k hk hn)⟩
theorem Rdr.other {w : World} {b : Nat} {T : TypeId} {kd s : ByteArray} {k : Nat} (h : Rdr w b T kd s k) {g : Nat} (hg : b ≠ g) (o : Nat) (v : Value) : Rdr (w.setCell ⟨g, o, none⟩ v) b T kd s k :=
  h.grown (grown_set w g o v) (by simpa using hg)
theorem drewG {w w' : World} {row : Option Nat} (h : w.grownBy w' row) : w.grownBy w'.drew row := ⟨h.os, h.tape, h.output, h.size, h.block⟩
theorem Rdr.grown_alloc {w : World} {b : Nat} {T : TypeId} {kd s : ByteArray} {k : Nat} (h : Rdr w b T kd s k) (o : Obj) : Rdr (w.alloc o) b T kd s k := h.grown (World.grownBy_alloc w o none) (by simp)

theorem blk0 {w : World} {b : Nat} {x y z : Value} {t : TypeId} (h : w.heap[b]? = some (.cells #[x, y, z] t (0, 0))) : w.cell? ⟨b, 0, none⟩ = some x := by simp [World.cell?, h]
theorem blk1 {w : World} {b : Nat} {x y z : Value} {t : TypeId} (h : w.heap[b]? = some (.cells #[x, y, z] t (0, 0))) : w.cell? ⟨b, 1, none⟩ = some y := by simp [World.cell?, h]
theorem blk2 {w : World} {b : Nat} {x y z : Value} {t : TypeId} (h : w.heap[b]? = some (.cells #[x, y, z] t (0, 0))) : w.cell? ⟨b, 2, none⟩ = some z := by simp [World.cell?, h]
theorem blkf {w : World} {b : Nat} {x y z : Value} {t : TypeId} (h : w.heap[b]? = some (.cells #[x, y, z] t (0, 0))) : ∀ o, w.frozen? ⟨b, o, none⟩ = false := by intro o; simp [World.frozen?, h]
theorem only61 (w : World) : Calls Tryd.prog 57 #[.int .u8 61] w fun e w' => e = .returned (.func (.func 77) #[] #[.pointer (some ⟨w.heap.size, 0, none⟩)]) ∧ w' = w.alloc (.cells #[.int .u8 61] 5) := only_any 61 w
theorem only59 (w : World) : Calls Tryd.prog 57 #[.int .u8 59] w fun e w' => e = .returned (.func (.func 77) #[] #[.pointer (some ⟨w.heap.size, 0, none⟩)]) ∧ w' = w.alloc (.cells #[.int .u8 59] 5) := only_any 59 w
theorem cell_new_one (w : World) (v : Value) (t : TypeId) : (w.alloc (.cells #[v] t)).cell? ⟨w.heap.size, 0, none⟩ = some v := by simp
set_option maxRecDepth 100000 in
set_option maxHeartbeats 1000000 in
theorem grule_noname (b : Nat) (kd s : ByteArray) (k : Nat) (U : TypeId) (x : Addr) (w : World) (h : Rdr w b 78 kd s k) (hk : k ≤ s.size) (hs : s.size ≤ 50) (hT : w.cell? ⟨1, 0, none⟩ = some (.iface U (.pointer (some x)))) (hb : b ≠ 1)
    (hn : ¬ (k < s.size ∧ Pu.nm (Pu.byt s k) = true)) :
    Calls Tryd.prog 54 #[.pointer (some ⟨b, 0, none⟩)] w fun e w' => e = .returned (.tuple #[.agg #[.int .u8 0, .string ⟨#[]⟩, .int .i64 0], inV kd (atV k (.iface U (.pointer (some x))))]) ∧ Rdr w' b 78 kd s k ∧ w.grownBy w' (some b) := by
  have c2 := h.c2
  have HT : Hid (decide (k < s.size ∧ Pu.nm (Pu.byt s k) = true) = false) := by show _ = _; rw [decide_eq_false_iff_not]; exact hn
  have hlt := h.lt
  clear hn
  go_enter Tryd.func54, Tryd.ntmps54
  go_wp2_with fail
  go_cut [22] (fun v wc => v = .bool true ∧ Rdr wc b 78 kd s k ∧ w.grownBy wc (some b) ∧ wc.heap[w.heap.size]? = some (.cells #[.int .u8 0, .string ⟨#[]⟩, .int .i64 0] 115 (0, 0)))
  case first =>
    first | (go_region_with (first | (go_at_call 56; refine (take_name b 78 kd s k false _ HT ?_ hk hs).mono ?_; exact (h.grown_alloc _); rintro e w1 ⟨rfl, hr1, hg1⟩))) | fail
    all_goals
      go_wp2_with fail
      go_meet
      case rel =>
        refine ⟨rfl, hr1, grown_trans (World.grownBy_alloc w _ _) (undrew hg1), ?_⟩
        rw [hg1.block w.heap.size (by simp) (by simp; omega)]; exact heap_alloc_new w _
  case rest =>
    obtain ⟨rfl, hr2, hg2, hcell⟩ := hcut
    have c2' := hr2.c2
    have hT' : wc.cell? ⟨1, 0, none⟩ = some (.iface U (.pointer (some x))) := hg2.cell hT (by simp; omega)
    have hsz := hg2.size
    have k0 : wc.cell? ⟨w.heap.size, 0, none⟩ = some (.int .u8 0) := by simp [World.cell?, hcell]
    have k1 : wc.cell? ⟨w.heap.size, 1, none⟩ = some (.string ⟨#[]⟩) := by simp [World.cell?, hcell]
    have k2 : wc.cell? ⟨w.heap.size, 2, none⟩ = some (.int .i64 0) := by simp [World.cell?, hcell]
    have kf : ∀ o, wc.frozen? ⟨w.heap.size, o, none⟩ = false := by intro o; simp [World.frozen?, hcell]
    have hl1 := World.block_lt_of_cell? w _ hT
    have n1 : ¬ w.heap.size = b := by omega
    have n2 : ¬ w.heap.size = 1 := by simp at hl1; omega
    have n3 : ¬ b = w.heap.size := by omega
    have n4 : ¬ 1 = w.heap.size := by simp at hl1; omega
    clear h hT hl1
    go_wp2_with fail
    go_region_held3 (fun w' => w'.cell? ⟨b, 2, none⟩ = some (.int .i64 k) ∧ w'.cell? ⟨1, 0, none⟩ = some (.iface U (.pointer (some x)))) (go_keep) ((go_at_call 58; refine (wrong_any b 78 kd s k k U x _ ?_).mono ?_; exact hr2; rintro e w1 ⟨rfl, rfl⟩))
    go_wp2_with fail
    refine bodyPost_ret (v := .tuple #[.agg #[.int .u8 0, .string ⟨#[]⟩, .int .i64 0], inV kd (atV k (.iface U (.pointer (some x))))]) (by simp [results, Tryd.results54, go_sem, k0, k1, k2]) rfl ⟨rfl, ?_, ?_⟩
    · exact ((hr2.other n3 _ _).other n3 _ _).other n3 _ _
    · exact drewG (grown_new (grown_new (grown_new hg2 (Nat.le_refl _) _ _) (Nat.le_refl _) _ _) (Nat.le_refl _) _ _)
set_option maxRecDepth 100000 in
set_option maxHeartbeats 1000000 in
theorem grule_noeq (b : Nat) (kd s : ByteArray) (k : Nat) (U : TypeId) (x : Addr) (w : World) (h : Rdr w b 78 kd s k) (hk : k ≤ s.size) (hs : s.size ≤ 50) (hT : w.cell? ⟨1, 0, none⟩ = some (.iface U (.pointer (some x)))) (hb : b ≠ 1)
    (hk1 : k < s.size) (hnm : Pu.nm (Pu.byt s k) = true) (hn : ¬ (k + 1 < s.size ∧ (Pu.byt s (k + 1) == 61) = true)) :
    Calls Tryd.prog 54 #[.pointer (some ⟨b, 0, none⟩)] w fun e w' => e = .returned (.tuple #[.agg #[.int .u8 0, .string ⟨#[]⟩, .int .i64 0], inV kd (atV (k + 1) (.iface U (.pointer (some x))))]) ∧ Rdr w' b 78 kd s (k + 1) ∧ w.grownBy w' (some b) := by
  have c2 := h.c2
  have HT : Hid (decide (k < s.size ∧ Pu.nm (Pu.byt s k) = true) = true) := by show _ = _; simp [hk1, hnm]
  have HT2 : Hid (decide (k + 1 < s.size ∧ (Pu.byt s (k + 1) == 61) = true) = false) := by show _ = _; rw [decide_eq_false_iff_not]; exact hn
  have hlt := h.lt
  clear hn hnm
  go_enter Tryd.func54, Tryd.ntmps54
  go_wp2_with fail
  go_cut [22] (fun v wc => v = .bool true ∧ Rdr wc b 78 kd s (k + 1) ∧ w.grownBy wc (some b) ∧ wc.heap[w.heap.size]? = some (.cells #[.int .u8 0, .string ⟨#[]⟩, .int .i64 0] 115 (0, 0)))
  case first =>
    go_region_with (first
      | (go_at_call 57; refine (only61 _).mono ?_; rintro e w2 ⟨rfl, rfl⟩)
      | (go_at_call_of 56 (w1.heap.size); refine (take_only b 78 kd s (k + 1) 61 w1.heap.size false _ HT2 ?_ (by omega) hs ?_).mono ?_; exact (Rdr.grown_alloc hr1 _); exact (cell_new_one _ _ _); rintro e w3 ⟨rfl, hr3, hg3⟩)
      | (go_at_call 56; refine (take_name b 78 kd s k true _ HT ?_ hk hs).mono ?_; exact (h.grown_alloc _); rintro e w1 ⟨rfl, hr1, hg1⟩))
    all_goals
      go_wp2_with fail
      go_meet
      case rel =>
        have hs1 := hg1.size
        simp at hs1
        refine ⟨rfl, hr3, grown_trans (grown_trans (grown_trans (World.grownBy_alloc w _ _) (undrew hg1)) (World.grownBy_alloc w1 _ _)) hg3, ?_⟩
        rw [hg3.block w.heap.size (by simp; omega) (by simp; omega), Below.heap_alloc _ _ _ (by omega), hg1.block w.heap.size (by simp) (by simp; omega)]; exact heap_alloc_new w _
  case rest =>
    obtain ⟨rfl, hr2, hg2, hcell⟩ := hcut
    have c2' := hr2.c2
    have hT' : wc.cell? ⟨1, 0, none⟩ = some (.iface U (.pointer (some x))) := hg2.cell hT (by simp; omega)
    have hsz := hg2.size
    have k0 : wc.cell? ⟨w.heap.size, 0, none⟩ = some (.int .u8 0) := by simp [World.cell?, hcell]
    have k1 : wc.cell? ⟨w.heap.size, 1, none⟩ = some (.string ⟨#[]⟩) := by simp [World.cell?, hcell]
    have k2 : wc.cell? ⟨w.heap.size, 2, none⟩ = some (.int .i64 0) := by simp [World.cell?, hcell]
    have kf : ∀ o, wc.frozen? ⟨w.heap.size, o, none⟩ = false := by intro o; simp [World.frozen?, hcell]
    have hl1 := World.block_lt_of_cell? w _ hT
    have n1 : ¬ w.heap.size = b := by omega
    have n2 : ¬ w.heap.size = 1 := by simp at hl1; omega
    have n3 : ¬ b = w.heap.size := by omega
    have n4 : ¬ 1 = w.heap.size := by simp at hl1; omega
    clear h hT hl1
    go_wp2_with fail
    go_region_held3 (fun w' => w'.cell? ⟨b, 2, none⟩ = some (.int .i64 ↑(k + 1)) ∧ w'.cell? ⟨1, 0, none⟩ = some (.iface U (.pointer (some x)))) (go_keep) ((go_at_call 58; refine (wrong_any b 78 kd s (k + 1) (k + 1) U x _ ?_).mono ?_; exact hr2; rintro e w1 ⟨rfl, rfl⟩))
    go_wp2_with fail
    refine bodyPost_ret (v := .tuple #[.agg #[.int .u8 0, .string ⟨#[]⟩, .int .i64 0], inV kd (atV (k + 1) (.iface U (.pointer (some x))))]) (by simp [results, Tryd.results54, go_sem, k0, k1, k2]) rfl ⟨rfl, ?_, ?_⟩
    · exact ((hr2.other n3 _ _).other n3 _ _).other n3 _ _
    · exact drewG (grown_new (grown_new (grown_new hg2 (Nat.le_refl _) _ _) (Nat.le_refl _) _ _) (Nat.le_refl _) _ _)
set_option maxRecDepth 100000 in
set_option maxHeartbeats 1000000 in
theorem grule_ok (b : Nat) (kd s : ByteArray) (k : Nat) (w : World) (h : Rdr w b 78 kd s k) (hk : k ≤ s.size) (hs : s.size ≤ 50)
    (hk1 : k < s.size) (hnm : Pu.nm (Pu.byt s k) = true) (hk2 : k + 1 < s.size) (hq : Pu.byt s (k + 1) = 61) :
    Calls Tryd.prog 54 #[.pointer (some ⟨b, 0, none⟩)] w fun e w' => e = .returned (.tuple #[.agg #[.int .u8 ↑(Pu.byt s k), .string (sub s (k + 2) (Pu.signs s 3 (k + 2))), .int .i64 k], .nilIface]) ∧ Rdr w' b 78 kd s (Pu.signs s 3 (k + 2)) ∧ w.grownBy w' (some b) := by
  have c2 := h.c2
  have HT : Hid (decide (k < s.size ∧ Pu.nm (Pu.byt s k) = true) = true) := by show _ = _; simp [hk1, hnm]
  have HT2 : Hid (decide (k + 1 < s.size ∧ (Pu.byt s (k + 1) == 61) = true) = true) := by show _ = _; simp [hk2, hq]
  have hlt := h.lt
  clear hq hnm
  go_enter Tryd.func54, Tryd.ntmps54
  go_wp2_with fail
  go_cut [22] (fun v wc => v = .bool false ∧ Rdr wc b 78 kd s (k + 2) ∧ w.grownBy wc (some b) ∧ wc.heap[w.heap.size]? = some (.cells #[.int .u8 0, .string ⟨#[]⟩, .int .i64 0] 115 (0, 0)))
  case first =>
    go_region_with (first
      | (go_at_call 57; refine (only61 _).mono ?_; rintro e w2 ⟨rfl, rfl⟩)
      | (go_at_call_of 56 (w1.heap.size); refine (take_only b 78 kd s (k + 1) 61 w1.heap.size true _ HT2 ?_ (by omega) hs ?_).mono ?_; exact (Rdr.grown_alloc hr1 _); exact (cell_new_one _ _ _); rintro e w3 ⟨rfl, hr3, hg3⟩)
      | (go_at_call 56; refine (take_name b 78 kd s k true _ HT ?_ hk hs).mono ?_; exact (h.grown_alloc _); rintro e w1 ⟨rfl, hr1, hg1⟩))
    all_goals
      go_wp2_with fail
      go_meet
      case rel =>
        have hs1 := hg1.size
        simp at hs1
        refine ⟨rfl, hr3, grown_trans (grown_trans (grown_trans (World.grownBy_alloc w _ _) (undrew hg1)) (World.grownBy_alloc w1 _ _)) hg3, ?_⟩
        rw [hg3.block w.heap.size (by simp; omega) (by simp; omega), Below.heap_alloc _ _ _ (by omega), hg1.block w.heap.size (by simp) (by simp; omega)]; exact heap_alloc_new w _
  case rest =>
    obtain ⟨rfl, hr2, hg2, hcell⟩ := hcut
    have c1' := hr2.c1
    have hsz := hg2.size
    have k0 : wc.cell? ⟨w.heap.size, 0, none⟩ = some (.int .u8 0) := by simp [World.cell?, hcell]
    have k1 : wc.cell? ⟨w.heap.size, 1, none⟩ = some (.string ⟨#[]⟩) := by simp [World.cell?, hcell]
    have k2 : wc.cell? ⟨w.heap.size, 2, none⟩ = some (.int .i64 0) := by simp [World.cell?, hcell]
    have kf : ∀ o, wc.frozen? ⟨w.heap.size, o, none⟩ = false := by intro o; simp [World.frozen?, hcell]
    have n1 : ¬ w.heap.size = b := by omega
    have n3 : ¬ b = w.heap.size := by omega
    have b1 : (0 : Int) ≤ (k : Int) := by omega
    have b2 : (k : Int) < (s.size : Int) := by omega
    have hz : w.heap.size < wc.heap.size := (Array.getElem?_eq_some_iff.1 hcell).1
    clear h
    go_wp2_with fail
    go_region_held3 (fun w' => w'.cell? ⟨b, 1, none⟩ = some (.string s)) (go_keep) ((go_at_call 69; refine (run_sign b 78 kd s (k + 2) _ ?_ (by omega) hs).mono ?_; exact hr2; rintro e w1 ⟨rfl, hr3, hg3⟩; have c1'' := hr3.c1; have hc3 := (hg3.block w.heap.size hz (by simp; omega)).trans hcell; have k0' := blk0 hc3; have k1' := blk1 hc3; have k2' := blk2 hc3; have kf' := blkf hc3))
    all_goals
      go_wp2_with fail
      refine bodyPost_ret (v := .tuple #[.agg #[.int .u8 ↑(s[k].toNat), .string (sub s (k + 2) (Pu.signs s 3 (k + 2))), .int .i64 k], .nilIface]) (by simp [results, Tryd.results54, go_sem, k0', k1', k2']) rfl ⟨?_, ?_, ?_⟩
      · rw [Pu.byt_eq hk1]
      · exact ((hr3.other n3 _ _).other n3 _ _).other n3 _ _
      · exact grown_new (grown_new (grown_new (grown_trans hg2 (undrew hg3)) (Nat.le_refl _) _ _) (Nat.le_refl _) _ _) (Nat.le_refl _) _ _

theorem grule_yes (b : Nat) (kd s : ByteArray) (k j : Nat) (w : World) (hr : Hid (Pu.ruleAt s k = (j, true))) (h : Rdr w b 78 kd s k) (hs : s.size ≤ 50) :
    Calls Tryd.prog 54 #[.pointer (some ⟨b, 0, none⟩)] w fun e w' => e = .returned (.tuple #[.agg #[.int .u8 ↑(Pu.byt s k), .string (sub s (k + 2) j), .int .i64 k], .nilIface]) ∧ Rdr w' b 78 kd s j ∧ w.grownBy w' (some b) := by
  have e := hr.out
  unfold Pu.ruleAt at e
  by_cases h1 : k < s.size ∧ Pu.nm (Pu.byt s k) = true
  · rw [if_pos h1] at e
    by_cases h2 : k + 1 < s.size ∧ Pu.byt s (k + 1) = 61
    · rw [if_pos h2] at e
      obtain rfl : Pu.signs s 3 (k + 2) = j := (Prod.mk.inj e).1
      exact grule_ok b kd s k w h (by omega) hs h1.1 h1.2 h2.1 h2.2
    · rw [if_neg h2] at e; cases (Prod.mk.inj e).2
  · rw [if_neg h1] at e; cases (Prod.mk.inj e).2
theorem grule_no (b : Nat) (kd s : ByteArray) (k j : Nat) (U : TypeId) (x : Addr) (w : World) (hr : Hid (Pu.ruleAt s k = (j, false))) (h : Rdr w b 78 kd s k) (hk : k ≤ s.size) (hs : s.size ≤ 50) (hT : w.cell? ⟨1, 0, none⟩ = some (.iface U (.pointer (some x)))) (hb : b ≠ 1) :
    Calls Tryd.prog 54 #[.pointer (some ⟨b, 0, none⟩)] w fun e w' => e = .returned (.tuple #[.agg #[.int .u8 0, .string ⟨#[]⟩, .int .i64 0], inV kd (atV j (.iface U (.pointer (some x))))]) ∧ Rdr w' b 78 kd s j ∧ w.grownBy w' (some b) := by
  have e := hr.out
  unfold Pu.ruleAt at e
  by_cases h1 : k < s.size ∧ Pu.nm (Pu.byt s k) = true
  · rw [if_pos h1] at e
    by_cases h2 : k + 1 < s.size ∧ Pu.byt s (k + 1) = 61
    · rw [if_pos h2] at e; cases (Prod.mk.inj e).2
    · rw [if_neg h2] at e
      obtain rfl : k + 1 = j := (Prod.mk.inj e).1
      exact grule_noeq b kd s k U x w h hk hs hT hb h1.1 h1.2 (by simpa using h2)
  · rw [if_neg h1] at e
    obtain rfl : k = j := (Prod.mk.inj e).1
    exact grule_noname b kd s k U x w h hk hs hT hb h1
end Go.Proofs.YthmbbiahnfpoeaaDoor
