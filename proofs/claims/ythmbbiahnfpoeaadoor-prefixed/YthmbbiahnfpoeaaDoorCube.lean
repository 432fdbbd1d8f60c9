import Derived.Test.YthmbbiahnfpoeaaDoorPureC
import Derived.Test.YthmbbiahnfpoeaaDoorCore
import Derived.WalkKit
import Derived.WalkSpells
import Derived.WalkSmall
import Derived.BigQuiet
import Derived.Deep.QuietTactic
import Derived.Deep.RegionWith
import Derived.Deep.LoopGhost
import Derived.Deep.RegionHeld3
import Derived.Deep.DeepCutAuto
namespace Go.Proofs.YthmbbiahnfpoeaaDoor
open Go.RowKit

/-- Where the k-th table of a cube lies; its i-th row lies i + 1 behind it. -/
def tb (base n k : Nat) : Nat := base + k * (n + 2)
theorem tb_inj {base n k i k' i' : Nat} (hi : i ≤ n + 1) (hi' : i' ≤ n + 1) (h : tb base n k + i = tb base n k' + i') : k = k' ∧ i = i' := by
  unfold tb at h
  have h1 : k * (n + 2) + i = k' * (n + 2) + i' := by omega
  have a : (k * (n + 2) + i) / (n + 2) = k := by rw [Nat.mul_comm, Nat.mul_add_div (by omega), Nat.div_eq_of_lt (by omega)]; omega
  have b : (k' * (n + 2) + i') / (n + 2) = k' := by rw [Nat.mul_comm, Nat.mul_add_div (by omega), Nat.div_eq_of_lt (by omega)]; omega
  have e : k = k' := by rw [← a, ← b, h1]
  subst e
  exact ⟨rfl, by omega⟩
theorem tb_ge (base n k : Nat) : base ≤ tb base n k := by unfold tb; omega
theorem tb_lt {base n k A i : Nat} (hk : k < A) (hi : i ≤ n + 1) : tb base n k + i < base + A * (n + 2) := by
  unfold tb
  have : (k + 1) * (n + 2) ≤ A * (n + 2) := Nat.mul_le_mul_right _ hk
  rw [Nat.add_mul] at this
  omega
theorem tb_succ (base n k : Nat) : tb base n (k + 1) = tb base n k + (n + 2) := by unfold tb; rw [Nat.add_mul]; omega

/-- Three storeys of slices of numbers. -/
structure Cube (w : World) (top base A n : Nat) (M : Nat → Nat → Nat → Nat) : Prop where
  lt : top < base
  top : ∃ cs : Array Value, w.heap[top]? = some (.cells cs 66 (0, 0)) ∧ ∀ k, k < A → cs[k]? = some (.slice (some ⟨tb base n k, 0, none⟩) (n + 1) (n + 1))
  tbl : ∀ k, k < A → ∃ cs : Array Value, w.heap[tb base n k]? = some (.cells cs 65 (0, 0)) ∧ ∀ i, i ≤ n → cs[i]? = some (.slice (some ⟨tb base n k + (i + 1), 0, none⟩) (n + 1) (n + 1))
  row : ∀ k i, k < A → i ≤ n → ∃ cs : Array Value, w.heap[tb base n k + (i + 1)]? = some (.cells cs 3 (0, 0)) ∧ ∀ j, j ≤ n → cs[j]? = some (.int .i64 (M k i j))
section
variable {w w' : World} {top base A n : Nat} {M : Nat → Nat → Nat → Nat}
theorem Cube.c1 (h : Cube w top base A n M) {k : Nat} (hk : k < A) : w.cell? ⟨top, k, none⟩ = some (.slice (some ⟨tb base n k, 0, none⟩) (n + 1) (n + 1)) := by
  obtain ⟨cs, h1, h2⟩ := h.top
  simp [World.cell?, h1, h2 k hk]
theorem Cube.c2 (h : Cube w top base A n M) {k i : Nat} (hk : k < A) (hi : i ≤ n) : w.cell? ⟨tb base n k, i, none⟩ = some (.slice (some ⟨tb base n k + (i + 1), 0, none⟩) (n + 1) (n + 1)) := by
  obtain ⟨cs, h1, h2⟩ := h.tbl k hk
  simp [World.cell?, h1, h2 i hi]
theorem Cube.c3 (h : Cube w top base A n M) {k i j : Nat} (hk : k < A) (hi : i ≤ n) (hj : j ≤ n) : w.cell? ⟨tb base n k + (i + 1), j, none⟩ = some (.int .i64 (M k i j)) := by
  obtain ⟨cs, h1, h2⟩ := h.row k i hk hi
  simp [World.cell?, h1, h2 j hj]
theorem Cube.frozen (h : Cube w top base A n M) {k i : Nat} (hk : k < A) (hi : i ≤ n) (j : Nat) : w.frozen? ⟨tb base n k + (i + 1), j, none⟩ = false := by
  obtain ⟨cs, h1, h2⟩ := h.row k i hk hi
  simp [World.frozen?, h1]
/-- What turns no block of the cube. -/
theorem Cube.kept (h : Cube w top base A n M) (hg : ∀ b, (b = top ∨ (base ≤ b ∧ b < base + A * (n + 2))) → w'.heap[b]? = w.heap[b]?) : Cube w' top base A n M := by
  refine ⟨h.lt, ?_, fun k hk => ?_, fun k i hk hi => ?_⟩
  · obtain ⟨cs, h1, h2⟩ := h.top; exact ⟨cs, by rw [hg _ (.inl rfl)]; exact h1, h2⟩
  · obtain ⟨cs, h1, h2⟩ := h.tbl k hk; exact ⟨cs, by rw [hg _ (.inr ⟨tb_ge _ _ _, by have := tb_lt (base := base) (n := n) (i := 0) hk (by omega); omega⟩)]; exact h1, h2⟩
  · obtain ⟨cs, h1, h2⟩ := h.row k i hk hi; exact ⟨cs, by rw [hg _ (.inr ⟨by have := tb_ge base n k; omega, tb_lt hk (by omega)⟩)]; exact h1, h2⟩
theorem lt_heap {w : World} {b : Nat} {o : Obj} (h : w.heap[b]? = some o) : b < w.heap.size := (Array.getElem?_eq_some_iff.1 h).1
theorem Cube.below (h : Cube w top base A n M) (hb : Below w.heap.size w w') : Cube w' top base A n M := by
  refine ⟨h.lt, ?_, fun k hk => ?_, fun k i hk hi => ?_⟩
  · obtain ⟨cs, h1, h2⟩ := h.top; exact ⟨cs, by rw [hb.block _ (lt_heap h1)]; exact h1, h2⟩
  · obtain ⟨cs, h1, h2⟩ := h.tbl k hk; exact ⟨cs, by rw [hb.block _ (lt_heap h1)]; exact h1, h2⟩
  · obtain ⟨cs, h1, h2⟩ := h.row k i hk hi; exact ⟨cs, by rw [hb.block _ (lt_heap h1)]; exact h1, h2⟩
/-- One number set. -/
def setM (M : Nat → Nat → Nat → Nat) (k i j v : Nat) : Nat → Nat → Nat → Nat := fun k' i' j' => if k' = k ∧ i' = i ∧ j' = j then v else M k' i' j'
theorem Cube.set (h : Cube w top base A n M) {k i j v : Nat} (hk : k < A) (hi : i ≤ n) (hj : j ≤ n) : Cube (w.setCell ⟨tb base n k + (i + 1), j, none⟩ (.int .i64 v)) top base A n (setM M k i j v) := by
  have ho : ∀ b, b ≠ tb base n k + (i + 1) → (w.setCell ⟨tb base n k + (i + 1), j, none⟩ (.int .i64 v)).heap[b]? = w.heap[b]? := fun b hb => Below.heap_setCell _ _ _ _ hb
  refine ⟨h.lt, ?_, fun k' hk' => ?_, fun k' i' hk' hi' => ?_⟩
  · obtain ⟨cs, h1, h2⟩ := h.top
    exact ⟨cs, by rw [ho _ (by have := tb_ge base n k; have := h.lt; omega)]; exact h1, h2⟩
  · obtain ⟨cs, h1, h2⟩ := h.tbl k' hk'
    exact ⟨cs, by rw [ho _ (fun e => by have := tb_inj (i := 0) (i' := i + 1) (by omega) (by omega) (show tb base n k' + 0 = tb base n k + (i + 1) from e); omega)]; exact h1, h2⟩
  · obtain ⟨cs, h1, h2⟩ := h.row k' i' hk' hi'
    by_cases e : k' = k ∧ i' = i
    · obtain ⟨rfl, rfl⟩ := e
      refine ⟨cs.setIfInBounds j (.int .i64 v), ?_, fun j' hj' => ?_⟩
      · show (w.heap.modify (tb base n k' + (i' + 1)) _)[tb base n k' + (i' + 1)]? = _
        rw [Array.getElem?_modify, if_pos rfl, h1]; rfl
      · by_cases e : j' = j
        · subst e
          have hs : j' < cs.size := by
            rcases Nat.lt_or_ge j' cs.size with h | h
            · exact h
            · have := h2 j' hj'; rw [Array.getElem?_eq_none h] at this; cases this
          rw [Array.getElem?_setIfInBounds_self_of_lt hs]
          simp [setM]
        · rw [Array.getElem?_setIfInBounds_ne (fun h => e h.symm), h2 j' hj']
          simp [setM, e]
    · refine ⟨cs, by rw [ho _ (fun h => e (by have := tb_inj (by omega) (by omega) h; omega))]; exact h1, fun j' hj' => ?_⟩
      rw [h2 j' hj']
      have : ¬ (k' = k ∧ i' = i ∧ j' = j) := fun h => e ⟨h.1, h.2.1⟩
      simp [setM, this]
theorem Cube.congr (h : Cube w top base A n M) {M' : Nat → Nat → Nat → Nat} (he : ∀ k i j, k < A → i ≤ n → j ≤ n → M k i j = M' k i j) : Cube w top base A n M' :=
  ⟨h.lt, h.top, h.tbl, fun k i hk hi => by obtain ⟨cs, h1, h2⟩ := h.row k i hk hi; exact ⟨cs, h1, fun j hj => by rw [h2 j hj, he k i j hk hi hj]⟩⟩
end

/-- Rows of nothing, as make lays them. -/
def zInts (k : Nat) : Array Value := madeCells (Value.int .i64 0).cells k
def zNil (k : Nat) : Array Value := madeCells (Value.slice none 0 0).cells k
theorem zInts_at {k j : Nat} (h : j < k) : (zInts k)[j]? = some (.int .i64 0) := by
  have hcz : (Value.int .i64 0).cells = #[.int .i64 0] := by simp [Value.cells]
  simp [zInts, madeCells, h, hcz, Nat.mod_one]
theorem zNil_size (k : Nat) : (zNil k).size = k := by simp [zNil, size_madeCells]
theorem Tryd.info3 : (Tryd.prog.info? 3).map (fun i => (i.zero, i.size, i.bytes)) = some (some (.int .i64 0), 1, 8) := by kernel_rfl
theorem Tryd.info65 : (Tryd.prog.info? 65).map (fun i => (i.zero, i.size, i.bytes)) = some (some (.slice none 0 0), 1, 24) := by kernel_rfl
theorem Tryd.info66 : (Tryd.prog.info? 66).map (fun i => (i.zero, i.size, i.bytes)) = some (some (.slice none 0 0), 1, 24) := by kernel_rfl
theorem make65 (n : Nat) (hn : n ≤ 100) (w : World) : (Instr.makeSlice 65 (.int .i64 ((n : Int) + 1)) (.int .i64 ((n : Int) + 1))).run Tryd.prog w = .ok (.slice (some ⟨w.heap.size, 0, none⟩) (n + 1) (n + 1)) (w.alloc (.cells (zInts (n + 1)) 3)) := by
  obtain ⟨i0, hi, hz0, hz1, hz2⟩ := info_parts Tryd.info3
  have h := run_make (P := Tryd.prog) w 65 3 i0 (.int .i64 0) Tryd.underlying65 hi hz0 .i64 .i64 ((n : Int) + 1) ((n : Int) + 1) (by omega) (by omega) (by rw [hz2]; omega) (by omega)
  rw [h, hz1, show ((n : Int) + 1).toNat = n + 1 by omega]; simp [zInts]
theorem make66 (n : Nat) (hn : n ≤ 100) (w : World) : (Instr.makeSlice 66 (.int .i64 ((n : Int) + 1)) (.int .i64 ((n : Int) + 1))).run Tryd.prog w = .ok (.slice (some ⟨w.heap.size, 0, none⟩) (n + 1) (n + 1)) (w.alloc (.cells (zNil (n + 1)) 65)) := by
  obtain ⟨i0, hi, hz0, hz1, hz2⟩ := info_parts Tryd.info65
  have h := run_make (P := Tryd.prog) w 66 65 i0 (.slice none 0 0) Tryd.underlying66 hi hz0 .i64 .i64 ((n : Int) + 1) ((n : Int) + 1) (by omega) (by omega) (by rw [hz2]; omega) (by omega)
  rw [h, hz1, show ((n : Int) + 1).toNat = n + 1 by omega]; simp [zNil]
theorem make67 (n : Nat) (hn : n ≤ 100) (w : World) : (Instr.makeSlice 67 (.int .i64 (n : Int)) (.int .i64 (n : Int))).run Tryd.prog w = .ok (.slice (some ⟨w.heap.size, 0, none⟩) n n) (w.alloc (.cells (zNil n) 66)) := by
  obtain ⟨i0, hi, hz0, hz1, hz2⟩ := info_parts Tryd.info66
  have h := run_make (P := Tryd.prog) w 67 66 i0 (.slice none 0 0) Tryd.underlying67 hi hz0 .i64 .i64 (n : Int) (n : Int) (by omega) (by omega) (by rw [hz2]; omega) (by omega)
  rw [h, hz1, Int.toNat_natCast]; simp [zNil]

/-- A cube in the making: K tables whole, of the next one I rows (none: it is not made). -/
structure Half (w V : World) (top base A n K : Nat) (I : Option Nat) : Prop where
  bel : Below w.heap.size w V
  tw : w.heap.size ≤ top
  lt : top < base
  size : V.heap.size = (match I with | none => tb base n K | some i => tb base n K + (i + 1))
  top : ∃ cs : Array Value, V.heap[top]? = some (.cells cs 66 (0, 0)) ∧ cs.size = A ∧ ∀ k, (k < K ∨ (k = K ∧ I.isSome = true)) → cs[k]? = some (.slice (some ⟨tb base n k, 0, none⟩) (n + 1) (n + 1))
  tbl : ∀ k, k < K → ∃ cs : Array Value, V.heap[tb base n k]? = some (.cells cs 65 (0, 0)) ∧ ∀ i, i ≤ n → cs[i]? = some (.slice (some ⟨tb base n k + (i + 1), 0, none⟩) (n + 1) (n + 1))
  row : ∀ k i, k < K → i ≤ n → ∃ cs : Array Value, V.heap[tb base n k + (i + 1)]? = some (.cells cs 3 (0, 0)) ∧ ∀ j, j ≤ n → cs[j]? = some (.int .i64 0)
  tblK : ∀ i, I = some i → ∃ cs : Array Value, V.heap[tb base n K]? = some (.cells cs 65 (0, 0)) ∧ cs.size = n + 1 ∧ ∀ i', i' < i → cs[i']? = some (.slice (some ⟨tb base n K + (i' + 1), 0, none⟩) (n + 1) (n + 1))
  rowK : ∀ i, I = some i → ∀ i', i' < i → ∃ cs : Array Value, V.heap[tb base n K + (i' + 1)]? = some (.cells cs 3 (0, 0)) ∧ ∀ j, j ≤ n → cs[j]? = some (.int .i64 0)
section
variable {w V : World} {top base A n K : Nat}
theorem Half.start {w V : World} {base A n : Nat} (o : Nat) (h1 : Below w.heap.size w V) (ho : V.heap[o]? = some (.cells (zNil A) 66 (0, 0))) (h2 : w.heap.size ≤ o) (h3 : o < base) (h4 : V.heap.size = base) : Half w V o base A n 0 none :=
  ⟨h1, h2, h3, by simpa [tb] using h4, ⟨zNil A, ho, zNil_size A, fun k hk => by rcases hk with h | ⟨_, h⟩ <;> simp at h⟩, fun k hk => by omega, fun k i hk => by omega, fun i h => (by cases h), fun i h => (by cases h)⟩
theorem Half.table (h : Half w V top base A n K none) (hK : K < A) : Half w ((V.alloc (.cells (zNil (n + 1)) 65)).setCell ⟨top, K, none⟩ (.slice (some ⟨V.heap.size, 0, none⟩) (n + 1) (n + 1))) top base A n K (some 0) := by
  have hs : V.heap.size = tb base n K := h.size
  obtain ⟨cs, ht, hz, hc⟩ := h.top
  have htl := lt_heap ht
  have hge := tb_ge base n K
  have ho : ∀ b, b ≠ top → ((V.alloc (.cells (zNil (n + 1)) 65)).setCell ⟨top, K, none⟩ (.slice (some ⟨V.heap.size, 0, none⟩) (n + 1) (n + 1))).heap[b]? = (V.alloc (.cells (zNil (n + 1)) 65)).heap[b]? := fun b hb => Below.heap_setCell _ _ _ _ hb
  have hold : ∀ b, b ≠ top → b < V.heap.size → ((V.alloc (.cells (zNil (n + 1)) 65)).setCell ⟨top, K, none⟩ (.slice (some ⟨V.heap.size, 0, none⟩) (n + 1) (n + 1))).heap[b]? = V.heap[b]? := fun b hb hl => (ho b hb).trans (Below.heap_alloc _ _ _ hl)
  refine ⟨(h.bel.alloc h.bel.size _).setCell h.tw _, h.tw, h.lt, by simp [hs], ?_, fun k hk => ?_, fun k i hk hi => ?_, fun i e => ?_, fun i e => ?_⟩
  · refine ⟨cs.setIfInBounds K (.slice (some ⟨V.heap.size, 0, none⟩) (n + 1) (n + 1)), ?_, by simpa using hz, fun k hk => ?_⟩
    · show ((V.alloc (.cells (zNil (n + 1)) 65)).heap.modify top _)[top]? = _
      rw [Array.getElem?_modify, if_pos rfl, Below.heap_alloc _ _ _ htl, ht]; rfl
    · by_cases e : k = K
      · subst e
        rw [Array.getElem?_setIfInBounds_self_of_lt (by omega), hs]
      · rw [Array.getElem?_setIfInBounds_ne (fun h => e h.symm)]
        exact hc k (by rcases hk with h | ⟨h, _⟩; exact .inl h; exact absurd h e)
  · obtain ⟨c, h1, h2⟩ := h.tbl k hk
    have := tb_ge base n k; have := h.lt
    exact ⟨c, by rw [hold _ (by omega) (lt_heap h1)]; exact h1, h2⟩
  · obtain ⟨c, h1, h2⟩ := h.row k i hk hi
    have := tb_ge base n k; have := h.lt
    exact ⟨c, by rw [hold _ (by omega) (lt_heap h1)]; exact h1, h2⟩
  · refine ⟨zNil (n + 1), ?_, zNil_size _, fun i' hi' => ?_⟩
    · rw [ho _ (by have := h.lt; omega), ← hs]; exact heap_alloc_new V _
    · simp only [Option.some.injEq] at e; omega
  · intro i' hi'; simp only [Option.some.injEq] at e; omega
theorem Half.addRow {i : Nat} (h : Half w V top base A n K (some i)) (hi : i ≤ n) : Half w ((V.alloc (.cells (zInts (n + 1)) 3)).setCell ⟨tb base n K, i, none⟩ (.slice (some ⟨V.heap.size, 0, none⟩) (n + 1) (n + 1))) top base A n K (some (i + 1)) := by
  have hs : V.heap.size = tb base n K + (i + 1) := h.size
  obtain ⟨ck, hk, hkz, hkc⟩ := h.tblK i rfl
  have hkl := lt_heap hk
  have hge := tb_ge base n K
  have hlt := h.lt
  have htw := h.tw
  have ho : ∀ b, b ≠ tb base n K → ((V.alloc (.cells (zInts (n + 1)) 3)).setCell ⟨tb base n K, i, none⟩ (.slice (some ⟨V.heap.size, 0, none⟩) (n + 1) (n + 1))).heap[b]? = (V.alloc (.cells (zInts (n + 1)) 3)).heap[b]? := fun b hb => Below.heap_setCell _ _ _ _ hb
  have hold : ∀ b, b ≠ tb base n K → b < V.heap.size → ((V.alloc (.cells (zInts (n + 1)) 3)).setCell ⟨tb base n K, i, none⟩ (.slice (some ⟨V.heap.size, 0, none⟩) (n + 1) (n + 1))).heap[b]? = V.heap[b]? := fun b hb hl => (ho b hb).trans (Below.heap_alloc _ _ _ hl)
  refine ⟨(h.bel.alloc h.bel.size _).setCell (by simp; omega) _, h.tw, h.lt, by simp [hs]; omega, ?_, fun k hk' => ?_, fun k i' hk' hi' => ?_, fun i' e => ?_, fun i' e => ?_⟩
  · obtain ⟨cs, ht, hz, hc⟩ := h.top
    exact ⟨cs, by rw [hold _ (by omega) (lt_heap ht)]; exact ht, hz, hc⟩
  · obtain ⟨c, h1, h2⟩ := h.tbl k hk'
    exact ⟨c, by rw [hold _ (fun e => by have := tb_inj (i := 0) (i' := 0) (by omega) (by omega) (show tb base n k + 0 = tb base n K + 0 from e); omega) (lt_heap h1)]; exact h1, h2⟩
  · obtain ⟨c, h1, h2⟩ := h.row k i' hk' hi'
    exact ⟨c, by rw [hold _ (fun e => by have := tb_inj (i := i' + 1) (i' := 0) (by omega) (by omega) (show tb base n k + (i' + 1) = tb base n K + 0 from e); omega) (lt_heap h1)]; exact h1, h2⟩
  · simp only [Option.some.injEq] at e
    subst e
    refine ⟨ck.setIfInBounds i (.slice (some ⟨V.heap.size, 0, none⟩) (n + 1) (n + 1)), ?_, by simpa using hkz, fun i' hi' => ?_⟩
    · show ((V.alloc (.cells (zInts (n + 1)) 3)).heap.modify (tb base n K) _)[tb base n K]? = _
      rw [Array.getElem?_modify, if_pos rfl, Below.heap_alloc _ _ _ hkl, hk]; rfl
    · by_cases e : i' = i
      · subst e
        rw [Array.getElem?_setIfInBounds_self_of_lt (by omega), hs]
      · rw [Array.getElem?_setIfInBounds_ne (fun h => e h.symm)]
        exact hkc i' (by omega)
  · simp only [Option.some.injEq] at e
    subst e
    intro i' hi'
    by_cases e : i' = i
    · subst e
      refine ⟨zInts (n + 1), ?_, fun j hj => zInts_at (by omega)⟩
      rw [ho _ (by omega), ← hs]; exact heap_alloc_new V _
    · obtain ⟨c, h1, h2⟩ := h.rowK i rfl i' (by omega)
      exact ⟨c, by rw [hold _ (by omega) (lt_heap h1)]; exact h1, h2⟩
theorem Half.close (h : Half w V top base A n K (some (n + 1))) : Half w V top base A n (K + 1) none := by
  obtain ⟨cs, ht, hz, hc⟩ := h.top
  refine ⟨h.bel, h.tw, h.lt, by have := h.size; simp only at this ⊢; rw [this, tb_succ], ⟨cs, ht, hz, fun k hk => hc k ?_⟩, fun k hk => ?_, fun k i hk hi => ?_, fun i e => (by cases e), fun i e => (by cases e)⟩
  · rcases hk with h | ⟨_, h⟩
    · rcases Nat.lt_or_ge k K with h' | h'
      · exact .inl h'
      · exact .inr ⟨by omega, rfl⟩
    · cases h
  · rcases Nat.lt_or_ge k K with h' | h'
    · exact h.tbl k h'
    · obtain rfl : k = K := by omega
      obtain ⟨c, h1, _, h2⟩ := h.tblK (n + 1) rfl
      exact ⟨c, h1, fun i hi => h2 i (by omega)⟩
  · rcases Nat.lt_or_ge k K with h' | h'
    · exact h.row k i h' hi
    · obtain rfl : k = K := by omega
      exact h.rowK (n + 1) rfl i (by omega)
theorem Half.done (h : Half w V top base A n A none) : Cube V top base A n (fun _ _ _ => 0) := by
  obtain ⟨cs, ht, _, hc⟩ := h.top
  exact ⟨h.lt, ⟨cs, ht, fun k hk => hc k (.inl hk)⟩, h.tbl, h.row⟩
theorem Half.drew {I : Option Nat} (h : Half w V top base A n K I) : Half w V.drew top base A n K I := ⟨h.bel.drew, h.tw, h.lt, h.size, h.top, h.tbl, h.row, h.tblK, h.rowK⟩
end
end Go.Proofs.YthmbbiahnfpoeaaDoor
