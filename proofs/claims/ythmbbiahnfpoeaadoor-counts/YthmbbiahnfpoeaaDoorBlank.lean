import Derived.Test.YthmbbiahnfpoeaaDoorCube
import Derived.WalkKit
import Derived.WalkSpells
import Derived.WalkSmall
import Derived.BigQuiet
import Derived.Deep.QuietTactic
import Derived.Deep.RegionWith
import Derived.Deep.LoopGhost
import Derived.Deep.RegionHeld3
import Derived.Deep.DeepCutAuto
namespace Go.Proofs.YthmbbiahnfpoeaaDoor
open Go.RowKit

theorem alloc_set_comm {w : World} {b : Nat} (h : b < w.heap.size) (o : Obj) (off : Nat) (v : Value) : (w.alloc o).setCell ⟨b, off, none⟩ v = (w.setCell ⟨b, off, none⟩ v).alloc o := by
  simp only [World.alloc, World.setCell]
  congr 1
  refine Array.ext_getElem? fun i => ?_
  simp only [Array.getElem?_modify, Array.getElem?_push, Array.size_modify]
  by_cases e : i = w.heap.size
  · subst e; simp; omega
  · simp [e]
theorem wrapN (n : Nat) (h : n ≤ 100) : IntKind.i64.wrap ((n : Int) + 1) = (n : Int) + 1 := by rw [IntKind.wrap_i64]; omega

set_option maxRecDepth 100000 in
set_option maxHeartbeats 1000000 in
theorem blank_any (n : Nat) (w : World) (hn : n ≤ 24) :
    Calls Tryd.prog 48 #[.int .i64 n] w fun e w' => e = .returned (.slice (some ⟨w.heap.size, 0, none⟩) 26 26) ∧ Below w.heap.size w w' ∧ Cube w' w.heap.size (w.heap.size + 1) 26 n (fun _ _ _ => 0) := by
  have m65 := make65 n (by omega)
  have m65w := make65 n (by omega)
  rw [← wrapN n (by omega)] at m65w
  have m66 := make66 n (by omega)
  have m67 := make67 26 (by omega)
  have m67' : ∀ w, (Instr.makeSlice 67 (.int .i64 26) (.int .i64 26)).run Tryd.prog w = .ok (.slice (some ⟨w.heap.size, 0, none⟩) 26 26) (w.alloc (.cells (zNil 26) 66)) := m67
  clear m67
  have hH0 : Half w (w.alloc (.cells (zNil 26) 66)) w.heap.size (w.heap.size + 1) 26 n 0 none :=
    Half.start _ ((Below.refl _ _).alloc (Nat.le_refl _) _) (heap_alloc_new w _) (Nat.le_refl _) (by omega) (by simp)
  go_enter Tryd.func48, Tryd.ntmps48
  go_wp2
  clear m67'
  generalize hbs : w.heap.size + 1 = base at *
  go_loopg [4] 26 (fun m kv V => ∃ k : Nat, kv = .int .i64 k ∧ k ≤ 26 ∧ m = 26 - k ∧ Half w V w.heap.size base 26 n k none)
  case atStart => exact ⟨0, rfl, by omega, rfl, hH0⟩
  case round =>
    clear hH0
    obtain ⟨k, rfl, hk, rfl, hH⟩ := hrel
    by_cases hk26 : k < 26
    · have hd26 : decide ((k : Int) < 26) = true := by simp; omega
      have hT := hH.table hk26
      rw [alloc_set_comm (by obtain ⟨cs, ht, _⟩ := hH.top; exact lt_heap ht)] at hT
      obtain ⟨cs, ht, hz, hc⟩ := hH.top
      have htl := lt_heap ht
      have hct : ∃ v, wr.cell? ⟨w.heap.size, k, none⟩ = some v := by
        simp only [World.cell?, ht]
        exact ⟨cs[k], by simp⟩
      obtain ⟨v0, hv0⟩ := hct
      have hf0 : wr.frozen? ⟨w.heap.size, k, none⟩ = false := by simp [World.frozen?, ht]
      have hne : ¬ wr.heap.size = w.heap.size := by omega
      have hne' : ¬ w.heap.size = wr.heap.size := by omega
      clear hH ht hz hc
      go_wp2
      clear hv0 hf0 hne hne' htl
      go_loopg [5] (n + 1) (fun m iv V => ∃ i : Nat, iv = .int .i64 i ∧ i ≤ n + 1 ∧ m = n + 1 - i ∧ Half w V w.heap.size base 26 n k (some i))
      case atStart => exact ⟨0, rfl, by omega, rfl, hT⟩
      case round =>
        clear hT
        obtain ⟨i, rfl, hi, rfl, hH⟩ := hrel
        by_cases hin : i ≤ n
        · have hR := hH.addRow hin
          rw [alloc_set_comm (by obtain ⟨ck, hk1, _⟩ := hH.tblK i rfl; exact lt_heap hk1)] at hR
          obtain ⟨cs, ht, hz, hc⟩ := hH.top
          have hc1 : wr.cell? ⟨w.heap.size, k, none⟩ = some (.slice (some ⟨tb base n k, 0, none⟩) (n + 1) (n + 1)) := by simp [World.cell?, ht, hc k (.inr ⟨rfl, rfl⟩)]
          obtain ⟨ck, hk1, hkz, _⟩ := hH.tblK i rfl
          have hct : ∃ v, wr.cell? ⟨tb base n k, i, none⟩ = some v := by
            simp only [World.cell?, hk1]
            exact ⟨ck[i]'(by omega), by simp⟩
          obtain ⟨v1, hv1⟩ := hct
          have hf1 : wr.frozen? ⟨tb base n k, i, none⟩ = false := by simp [World.frozen?, hk1]
          have htl := lt_heap ht
          have hkl := lt_heap hk1
          have g1 : ¬ wr.heap.size = w.heap.size := by omega
          have g2 : ¬ w.heap.size = wr.heap.size := by omega
          have hge := tb_ge base n k
          generalize tb base n k = tk at *
          have g3 : ¬ wr.heap.size = tk := by omega
          have g4 : ¬ tk = wr.heap.size := by omega
          have g5 : ¬ tk = w.heap.size := by omega
          have g6 : ¬ w.heap.size = tk := by omega
          have b1 : (0 : Int) ≤ (k : Int) := by omega
          have b2 : (k : Int) < 26 := by omega
          have b3 : (0 : Int) ≤ (i : Int) := by omega
          have b4 : (i : Int) < (n : Int) + 1 := by omega
          clear hH ht hz hc hk1 hkz
          go_wp2
          go_region_held3 (fun w' => w'.cell? ⟨w.heap.size, k, none⟩ = some (.slice (some ⟨tk, 0, none⟩) (n + 1) (n + 1))) (go_keep) (fail)
          all_goals
            go_wp2_with fail
            go_roundg (n + 1 - (i + 1))
            case measure => omega
            case rel => exact ⟨i + 1, by go_num, by omega, rfl, hR.drew⟩
        · obtain rfl : i = n + 1 := by omega
          have hC := hH.close
          have hgt : ¬ ((n : Int) + 1 ≤ (n : Int)) := by omega
          clear hH
          go_wp2_with fail
          go_roundg (26 - (k + 1))
          case measure => omega
          case rel => exact ⟨k + 1, by go_num, by omega, rfl, hC⟩
    · obtain rfl : k = 26 := by omega
      go_wp2_with fail
      go_ret
      exact ⟨rfl, hH.bel, by rw [hbs]; exact hH.done⟩
end Go.Proofs.YthmbbiahnfpoeaaDoor
