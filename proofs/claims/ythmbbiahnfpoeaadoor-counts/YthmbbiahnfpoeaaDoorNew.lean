import Derived.Test.YthmbbiahnfpoeaaDoorFillW
import Derived.Test.YthmbbiahnfpoeaaDoorBlank
import Derived.WalkKit
import Derived.WalkSpells
import Derived.WalkSmall
import Derived.BigQuiet
import Derived.Deep.QuietTactic
import Derived.Deep.RegionWith
import Derived.Deep.LoopGhost
import Derived.Deep.RegionHeld3
import Derived.Deep.DeepCutAuto
namespace Go.Proofs.YthmbbiahnfpoeaaDoor
open Go.RowKit

/-- The chart in the making: its block, and its cube. -/
structure Making (w V : World) (q : Nat) (v : ByteArray) (A K : Nat) (I : Option Nat) : Prop where
  half : Half w V w.heap.size (w.heap.size + 2) A v.size K I
  blk : V.heap[w.heap.size + 1]? = some (.cells #[.pointer (some ⟨q, 0, none⟩), .string v, .slice (some ⟨w.heap.size, 0, none⟩) A A] 98 (0, 0))
section
variable {w V : World} {q : Nat} {v : ByteArray} {A K : Nat}
theorem Making.start (w : World) (q : Nat) (v : ByteArray) (A : Nat) : Making w ((w.alloc (.cells (zNil A) 66)).alloc (.cells #[.pointer (some ⟨q, 0, none⟩), .string v, .slice (some ⟨w.heap.size, 0, none⟩) A A] 98)) q v A 0 none := by
  refine ⟨Half.start _ (((Below.refl _ _).alloc (Nat.le_refl _) _).alloc (by simp) _) ?_ (Nat.le_refl _) (by omega) (by simp), ?_⟩
  · rw [Below.heap_alloc _ _ _ (by simp)]; exact heap_alloc_new w _
  · have := heap_alloc_new (w.alloc (.cells (zNil A) 66)) (.cells #[.pointer (some ⟨q, 0, none⟩), .string v, .slice (some ⟨w.heap.size, 0, none⟩) A A] 98)
    simpa using this
theorem Making.table (h : Making w V q v A K none) (hK : K < A) : Making w ((V.setCell ⟨w.heap.size, K, none⟩ (.slice (some ⟨V.heap.size, 0, none⟩) (v.size + 1) (v.size + 1))).alloc (.cells (zNil (v.size + 1)) 65)).drew q v A K (some 0) := by
  have hH := h.half.table hK
  rw [alloc_set_comm (by obtain ⟨cs, ht, _⟩ := h.half.top; exact lt_heap ht)] at hH
  refine ⟨hH.drew, ?_⟩
  show ((V.setCell ⟨w.heap.size, K, none⟩ (.slice (some ⟨V.heap.size, 0, none⟩) (v.size + 1) (v.size + 1))).alloc (.cells (zNil (v.size + 1)) 65)).heap[w.heap.size + 1]? = _
  rw [Below.heap_alloc _ _ _ (by simp; exact lt_heap h.blk), Below.heap_setCell _ _ _ _ (by show w.heap.size + 1 ≠ w.heap.size; omega)]
  exact h.blk
theorem Making.addRow {i : Nat} (h : Making w V q v A K (some i)) (hi : i ≤ v.size) : Making w ((V.setCell ⟨tb (w.heap.size + 2) v.size K, i, none⟩ (.slice (some ⟨V.heap.size, 0, none⟩) (v.size + 1) (v.size + 1))).alloc (.cells (zInts (v.size + 1)) 3)).drew q v A K (some (i + 1)) := by
  have hH := h.half.addRow hi
  rw [alloc_set_comm (by obtain ⟨ck, hk1, _⟩ := h.half.tblK i rfl; exact lt_heap hk1)] at hH
  refine ⟨hH.drew, ?_⟩
  have hge := tb_ge (w.heap.size + 2) v.size K
  show ((V.setCell ⟨tb (w.heap.size + 2) v.size K, i, none⟩ (.slice (some ⟨V.heap.size, 0, none⟩) (v.size + 1) (v.size + 1))).alloc (.cells (zInts (v.size + 1)) 3)).heap[w.heap.size + 1]? = _
  rw [Below.heap_alloc _ _ _ (by simp; exact lt_heap h.blk), Below.heap_setCell _ _ _ _ (by show w.heap.size + 1 ≠ tb (w.heap.size + 2) v.size K; omega)]
  exact h.blk
theorem Making.close (h : Making w V q v A K (some (v.size + 1))) : Making w V q v A (K + 1) none := ⟨h.half.close, h.blk⟩
theorem Making.done {g cap B : Nat} {s : ByteArray} {R : List (Nat × Nat)} {L : List Nat} (h : Making w V q v L.length L.length none) (hg : GrAt w q g cap B s R L) (hgl : g < w.heap.size) (hBl : B < w.heap.size) : ProgAt V (w.heap.size + 1) w.heap.size (w.heap.size + 2) q g cap B v s R L (fun _ _ _ => 0) :=
  ⟨h.blk, h.half.done, hg.grown (below_grown h.half.bel none) (by simp) (by simp) (by simp), Nat.lt_of_lt_of_le hgl h.half.bel.size, Nat.lt_of_lt_of_le hBl h.half.bel.size⟩
end

set_option maxRecDepth 100000 in
set_option maxHeartbeats 2000000 in
theorem New_any (q g cap B : Nat) (v s : ByteArray) (R : List (Nat × Nat)) (L : List Nat) (m : Nat) (w : World) (hv : v.size ≤ 24) (hG : Pu.Good s R) (hS : Pu.Signed s R) (hn : R.length ≤ 8) (hnd : L.Nodup) (hl8 : L.length ≤ 8) (hL90 : ∀ c ∈ L, 65 ≤ c ∧ c ≤ 90)
    (hLR : ∀ r ∈ R, Pu.byt s r.1 ∈ L) (hLC : ∀ r ∈ R, ∀ a, r.1 + 2 ≤ a → a < r.2 → Pu.nm (Pu.byt s a) = true → Pu.byt s a ∈ L) (hm : Pu.Cnt v s R v.size (Pu.lvl v s R m)) (h : GrAt w q g cap B s R L) (hgl : g < w.heap.size) (hBl : B < w.heap.size) :
    Calls Tryd.prog 43 #[.pointer (some ⟨q, 0, none⟩), .string v] w fun e w' => ∃ pb top base, e = .returned (.pointer (some ⟨pb, 0, none⟩)) ∧ ProgAt w' pb top base q g cap B v s R L (Pu.lvl v s R m) ∧ Below w.heap.size w w' := by
  have hql := h.lt
  have HF : Hid (∀ V, Making w V q v L.length L.length none → Calls Tryd.prog 72 #[.pointer (some ⟨w.heap.size + 1, 0, none⟩)] V fun e w' => e = .returned (.tuple #[]) ∧ ProgAt w' (w.heap.size + 1) w.heap.size (w.heap.size + 2) q g cap B v s R L (Pu.lvl v s R m) ∧ Below w.heap.size w w') := by
    intro V hV
    have hsz : V.heap.size = tb (w.heap.size + 2) v.size L.length := hV.half.size
    have := fill_any (w.heap.size + 1) w.heap.size (w.heap.size + 2) q g cap B v s R L m V hv hG hS hn hnd hl8 hL90 hLR hLC ⟨by omega, by omega, by omega, by omega⟩ (by rw [hsz]; unfold tb; omega) hm (hV.done h hgl hBl)
    refine this.mono ?_
    rintro e w' ⟨rfl, h1, h2⟩
    exact ⟨rfl, h1, hV.half.bel.trans (h2.mono (by omega))⟩
  have NB := hide (Names_any q g cap B s R L w h)
  have m65 := make65 v.size (by omega)
  have m65w := make65 v.size (by omega)
  rw [← wrapN v.size (by omega)] at m65w
  have m66 := make66 v.size (by omega)
  have m66w := make66 v.size (by omega)
  rw [← wrapN v.size (by omega)] at m66w
  have m67 := make67 L.length (by omega)
  have hM0 := Making.start w q v L.length
  clear hG hS hn hnd hL90 hLR hLC hm h hgl hBl
  go_enter Tryd.func43, Tryd.ntmps43
  go_wp2_with (go_at_call 71; refine NB.out.mono ?_; rintro e w1 ⟨rfl, rfl⟩)
  clear m67 NB
  go_loopg [20] (L.length + 1) (fun n kv V => ∃ k : Nat, kv = .int .i64 k ∧ k ≤ L.length ∧ n = L.length + 1 - k ∧ Making w1 V q v L.length k none)
  case atStart => exact ⟨0, rfl, Nat.zero_le _, rfl, hM0⟩
  case round =>
    clear hM0
    obtain ⟨k, rfl, hk, rfl, hM⟩ := hrel
    by_cases hkl : k < L.length
    · have hT := hM.table hkl
      have c2 : wr.cell? ⟨w1.heap.size + 1, 2, none⟩ = some (.slice (some ⟨w1.heap.size, 0, none⟩) L.length L.length) := by have := hM.blk; simp [World.cell?, this]
      obtain ⟨cs, ht, hz, hc⟩ := hM.half.top
      have htl := lt_heap ht
      have hpl := lt_heap hM.blk
      have hct : ∃ v, wr.cell? ⟨w1.heap.size, k, none⟩ = some v := by
        simp only [World.cell?, ht]
        exact ⟨cs[k], by simp⟩
      obtain ⟨v0, hv0⟩ := hct
      have hf0 : wr.frozen? ⟨w1.heap.size, k, none⟩ = false := by simp [World.frozen?, ht]
      have n1 : ¬ wr.heap.size = w1.heap.size := by omega
      have n2 : ¬ w1.heap.size = wr.heap.size := by omega
      have n3 : ¬ wr.heap.size = w1.heap.size + 1 := by omega
      have n4 : ¬ w1.heap.size + 1 = wr.heap.size := by omega
      have n5 : ¬ w1.heap.size + 1 = w1.heap.size := by omega
      have b1 : (0 : Int) ≤ (k : Int) := by omega
      have b2 : (k : Int) < (L.length : Int) := by omega
      clear hM ht hz hc
      go_wp2_with fail
      go_region_held3 (fun w' => w'.cell? ⟨w1.heap.size + 1, 2, none⟩ = some (.slice (some ⟨w1.heap.size, 0, none⟩) L.length L.length)) (go_keep) (fail)
      all_goals
        clear c2 hv0 hf0 n1 n2 n3 n4 n5 htl hpl
        generalize ((wr.setCell ⟨w1.heap.size, k, none⟩ (.slice (some ⟨wr.heap.size, 0, none⟩) (v.size + 1) (v.size + 1))).alloc (.cells (zNil (v.size + 1)) 65)).drew = V1 at *
        have c2 : V1.cell? ⟨w1.heap.size + 1, 2, none⟩ = some (.slice (some ⟨w1.heap.size, 0, none⟩) L.length L.length) := by have := hT.blk; simp [World.cell?, this]
        have c3 : V1.cell? ⟨w1.heap.size, k, none⟩ = some (.slice (some ⟨tb (w1.heap.size + 2) v.size k, 0, none⟩) (v.size + 1) (v.size + 1)) := by
          obtain ⟨cs, ht, hz, hc⟩ := hT.half.top
          simp [World.cell?, ht, hc k (.inr ⟨rfl, rfl⟩)]
        go_wp2_with fail
        clear c2 c3
        go_loopg [41] (v.size + 2) (fun n iv V => ∃ i : Nat, iv = .int .i64 i ∧ i ≤ v.size + 1 ∧ n = v.size + 2 - i ∧ Making w1 V q v L.length k (some i))
        case atStart => exact ⟨0, rfl, Nat.zero_le _, rfl, hT⟩
        case round =>
          clear hT
          obtain ⟨i, rfl, hi, rfl, hM⟩ := hrel
          by_cases hin : i ≤ v.size
          · have hR := hM.addRow hin
            have c2 : wr.cell? ⟨w1.heap.size + 1, 2, none⟩ = some (.slice (some ⟨w1.heap.size, 0, none⟩) L.length L.length) := by have := hM.blk; simp [World.cell?, this]
            obtain ⟨cs, ht, hz, hc⟩ := hM.half.top
            have c3 : wr.cell? ⟨w1.heap.size, k, none⟩ = some (.slice (some ⟨tb (w1.heap.size + 2) v.size k, 0, none⟩) (v.size + 1) (v.size + 1)) := by simp [World.cell?, ht, hc k (.inr ⟨rfl, rfl⟩)]
            obtain ⟨ck, hk1, hkz, _⟩ := hM.half.tblK i rfl
            have hct : ∃ x, wr.cell? ⟨tb (w1.heap.size + 2) v.size k, i, none⟩ = some x := by
              simp only [World.cell?, hk1]
              exact ⟨ck[i]'(by omega), by simp⟩
            obtain ⟨v1, hv1⟩ := hct
            have hf1 : wr.frozen? ⟨tb (w1.heap.size + 2) v.size k, i, none⟩ = false := by simp [World.frozen?, hk1]
            have htl := lt_heap ht
            have hkl1 := lt_heap hk1
            have hpl := lt_heap hM.blk
            have hge := tb_ge (w1.heap.size + 2) v.size k
            generalize tb (w1.heap.size + 2) v.size k = tk at *
            have n1 : ¬ wr.heap.size = w1.heap.size := by omega
            have n2 : ¬ w1.heap.size = wr.heap.size := by omega
            have n3 : ¬ wr.heap.size = w1.heap.size + 1 := by omega
            have n4 : ¬ w1.heap.size + 1 = wr.heap.size := by omega
            have n5 : ¬ w1.heap.size + 1 = w1.heap.size := by omega
            have n6 : ¬ wr.heap.size = tk := by omega
            have n7 : ¬ tk = wr.heap.size := by omega
            have n8 : ¬ tk = w1.heap.size := by omega
            have n9 : ¬ w1.heap.size = tk := by omega
            have na : ¬ tk = w1.heap.size + 1 := by omega
            have nb : ¬ w1.heap.size + 1 = tk := by omega
            have b3 : (0 : Int) ≤ (i : Int) := by omega
            have b4 : (i : Int) < (v.size : Int) + 1 := by omega
            clear hM ht hz hc hk1 hkz
            go_wp2_with fail
            go_region_held3 (fun w' => w'.cell? ⟨w1.heap.size + 1, 2, none⟩ = some (.slice (some ⟨w1.heap.size, 0, none⟩) L.length L.length) ∧ w'.cell? ⟨w1.heap.size, k, none⟩ = some (.slice (some ⟨tk, 0, none⟩) (v.size + 1) (v.size + 1))) (go_keep) (fail)
            all_goals
              go_wp2_with fail
              go_roundg (v.size + 2 - (i + 1))
              case measure => omega
              case rel => exact ⟨i + 1, by go_num, by omega, rfl, hR⟩
          · obtain rfl : i = v.size + 1 := by omega
            have hC := hM.close
            have b4 : ¬ ((v.size : Int) + 1 < (v.size : Int) + 1) := by omega
            clear hM
            go_wp2_with fail
            go_roundg (L.length + 1 - (k + 1))
            case measure => omega
            case rel => exact ⟨k + 1, by go_num, by omega, rfl, hC⟩
    · obtain rfl : k = L.length := by omega
      go_wp2_with (go_at_call 72; refine (HF.out _ hM).mono ?_; rintro e w2 ⟨rfl, h1, h2⟩)
      go_ret
      exact ⟨_, _, _, rfl, h1, h2⟩
end Go.Proofs.YthmbbiahnfpoeaaDoor
