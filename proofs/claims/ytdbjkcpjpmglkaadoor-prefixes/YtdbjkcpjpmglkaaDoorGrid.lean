import Derived.Test.YtdbjkcpjpmglkaaDoorPureB
import Derived.Test.YtdbjkcpjpmglkaaDoorBlank
namespace Go.Proofs.YtdbjkcpjpmglkaaDoor
open Go.RowKit

/-- Two storeys of slices of truths. -/
structure Grid (w : World) (top base A n : Nat) (G : Nat → Nat → Bool) : Prop where
  lt : top < base
  top : ∃ cs : Array Value, w.heap[top]? = some (.cells cs 56 (0, 0)) ∧ ∀ k, k < A → cs[k]? = some (.slice (some ⟨base + k, 0, none⟩) n n)
  row : ∀ k, k < A → ∃ cs : Array Value, w.heap[base + k]? = some (.cells cs 4 (0, 0)) ∧ ∀ i, i < n → cs[i]? = some (.bool (G k i))
section
variable {w w' : World} {top base A n : Nat} {G : Nat → Nat → Bool}
theorem Grid.c1 (h : Grid w top base A n G) {k : Nat} (hk : k < A) : w.cell? ⟨top, k, none⟩ = some (.slice (some ⟨base + k, 0, none⟩) n n) := by
  obtain ⟨cs, h1, h2⟩ := h.top
  simp [World.cell?, h1, h2 k hk]
theorem Grid.c2 (h : Grid w top base A n G) {k i : Nat} (hk : k < A) (hi : i < n) : w.cell? ⟨base + k, i, none⟩ = some (.bool (G k i)) := by
  obtain ⟨cs, h1, h2⟩ := h.row k hk
  simp [World.cell?, h1, h2 i hi]
theorem Grid.frozen (h : Grid w top base A n G) {k : Nat} (hk : k < A) (i : Nat) : w.frozen? ⟨base + k, i, none⟩ = false := by
  obtain ⟨cs, h1, h2⟩ := h.row k hk
  simp [World.frozen?, h1]
theorem Grid.kept (h : Grid w top base A n G) (hg : ∀ b, (b = top ∨ (base ≤ b ∧ b < base + A)) → w'.heap[b]? = w.heap[b]?) : Grid w' top base A n G := by
  refine ⟨h.lt, ?_, fun k hk => ?_⟩
  · obtain ⟨cs, h1, h2⟩ := h.top; exact ⟨cs, by rw [hg _ (.inl rfl)]; exact h1, h2⟩
  · obtain ⟨cs, h1, h2⟩ := h.row k hk; exact ⟨cs, by rw [hg _ (.inr ⟨by omega, by omega⟩)]; exact h1, h2⟩
theorem Grid.below (h : Grid w top base A n G) (hb : Below w.heap.size w w') : Grid w' top base A n G := by
  refine ⟨h.lt, ?_, fun k hk => ?_⟩
  · obtain ⟨cs, h1, h2⟩ := h.top; exact ⟨cs, by rw [hb.block _ (lt_heap h1)]; exact h1, h2⟩
  · obtain ⟨cs, h1, h2⟩ := h.row k hk; exact ⟨cs, by rw [hb.block _ (lt_heap h1)]; exact h1, h2⟩
theorem Grid.congr (h : Grid w top base A n G) {G' : Nat → Nat → Bool} (he : ∀ k i, k < A → i < n → G k i = G' k i) : Grid w top base A n G' :=
  ⟨h.lt, h.top, fun k hk => by obtain ⟨cs, h1, h2⟩ := h.row k hk; exact ⟨cs, h1, fun i hi => by rw [h2 i hi, he k i hk hi]⟩⟩
theorem Grid.set (h : Grid w top base A n G) {k i : Nat} (hk : k < A) : Grid (w.setCell ⟨base + k, i, none⟩ (.bool true)) top base A n (Pu.addG G k i) := by
  have ho : ∀ b, b ≠ base + k → (w.setCell ⟨base + k, i, none⟩ (.bool true)).heap[b]? = w.heap[b]? := fun b hb => Below.heap_setCell _ _ _ _ hb
  have hlt := h.lt
  refine ⟨h.lt, ?_, fun k' hk' => ?_⟩
  · obtain ⟨cs, h1, h2⟩ := h.top
    exact ⟨cs, by rw [ho _ (by omega)]; exact h1, h2⟩
  · obtain ⟨cs, h1, h2⟩ := h.row k' hk'
    by_cases e : k' = k
    · subst e
      refine ⟨cs.setIfInBounds i (.bool true), ?_, fun i' hi' => ?_⟩
      · show (w.heap.modify (base + k') _)[base + k']? = _
        rw [Array.getElem?_modify, if_pos rfl, h1]; rfl
      · by_cases e : i' = i
        · subst e
          have hs : i' < cs.size := by
            rcases Nat.lt_or_ge i' cs.size with h | h
            · exact h
            · have := h2 i' hi'; rw [Array.getElem?_eq_none h] at this; cases this
          rw [Array.getElem?_setIfInBounds_self_of_lt hs]
          simp [Pu.addG]
        · rw [Array.getElem?_setIfInBounds_ne (fun h => e h.symm), h2 i' hi']
          simp [Pu.addG, e]
    · refine ⟨cs, by rw [ho _ (by omega)]; exact h1, fun i' hi' => ?_⟩
      rw [h2 i' hi']
      simp [Pu.addG, e]
end

def zBools (k : Nat) : Array Value := madeCells (Value.bool false).cells k
theorem zBools_at {k j : Nat} (h : j < k) : (zBools k)[j]? = some (.bool false) := by
  have hcz : (Value.bool false).cells = #[.bool false] := by simp [Value.cells]
  simp [zBools, madeCells, h, hcz, Nat.mod_one]
theorem Tryd.infoB4 : (Tryd.prog.info? 4).map (fun i => (i.zero, i.size, i.bytes)) = some (some (.bool false), 1, 1) := by kernel_rfl
theorem Tryd.infoB56 : (Tryd.prog.info? 56).map (fun i => (i.zero, i.size, i.bytes)) = some (some (.slice none 0 0), 1, 24) := by kernel_rfl
theorem make108 (n : Nat) (hn : n ≤ 100) (w : World) : (Instr.makeSlice 108 (.int .i64 (n : Int)) (.int .i64 (n : Int))).run Tryd.prog w = .ok (.slice (some ⟨w.heap.size, 0, none⟩) n n) (w.alloc (.cells (zNil n) 56)) := by
  obtain ⟨i0, hi, hz0, hz1, hz2⟩ := info_parts Tryd.infoB56
  have h := run_make (P := Tryd.prog) w 108 56 i0 (.slice none 0 0) Tryd.underlying108 hi hz0 .i64 .i64 (n : Int) (n : Int) (by omega) (by omega) (by rw [hz2]; omega) (by omega)
  rw [h, hz1, Int.toNat_natCast]; simp [zNil]
theorem make56 (n : Nat) (hn : n ≤ 100) (w : World) : (Instr.makeSlice 56 (.int .i64 (n : Int)) (.int .i64 (n : Int))).run Tryd.prog w = .ok (.slice (some ⟨w.heap.size, 0, none⟩) n n) (w.alloc (.cells (zBools n) 4)) := by
  obtain ⟨i0, hi, hz0, hz1, hz2⟩ := info_parts Tryd.infoB4
  have h := run_make (P := Tryd.prog) w 56 4 i0 (.bool false) Tryd.underlying56 hi hz0 .i64 .i64 (n : Int) (n : Int) (by omega) (by omega) (by rw [hz2]; omega) (by omega)
  rw [h, hz1, Int.toNat_natCast]; simp [zBools]

/-- A grid in the making: K rows. -/
structure HalfG (w V : World) (top base A n K : Nat) : Prop where
  bel : Below w.heap.size w V
  tw : w.heap.size ≤ top
  lt : top < base
  size : V.heap.size = base + K
  top : ∃ cs : Array Value, V.heap[top]? = some (.cells cs 56 (0, 0)) ∧ cs.size = A ∧ ∀ k, k < K → cs[k]? = some (.slice (some ⟨base + k, 0, none⟩) n n)
  row : ∀ k, k < K → ∃ cs : Array Value, V.heap[base + k]? = some (.cells cs 4 (0, 0)) ∧ ∀ i, i < n → cs[i]? = some (.bool false)
section
variable {w V : World} {top base A n K : Nat}
theorem HalfG.start {w V : World} {base A n : Nat} (o : Nat) (h1 : Below w.heap.size w V) (ho : V.heap[o]? = some (.cells (zNil A) 56 (0, 0))) (h2 : w.heap.size ≤ o) (h3 : o < base) (h4 : V.heap.size = base) : HalfG w V o base A n 0 :=
  ⟨h1, h2, h3, h4, ⟨zNil A, ho, zNil_size A, fun k hk => by omega⟩, fun k hk => by omega⟩
theorem HalfG.addRow (h : HalfG w V top base A n K) (hK : K < A) : HalfG w ((V.setCell ⟨top, K, none⟩ (.slice (some ⟨V.heap.size, 0, none⟩) n n)).alloc (.cells (zBools n) 4)) top base A n (K + 1) := by
  have hs := h.size
  obtain ⟨cs, ht, hz, hc⟩ := h.top
  have htl := lt_heap ht
  have hlt := h.lt
  rw [← alloc_set_comm htl]
  have ho : ∀ b, b ≠ top → ((V.alloc (.cells (zBools n) 4)).setCell ⟨top, K, none⟩ (.slice (some ⟨V.heap.size, 0, none⟩) n n)).heap[b]? = (V.alloc (.cells (zBools n) 4)).heap[b]? := fun b hb => Below.heap_setCell _ _ _ _ hb
  refine ⟨(h.bel.alloc h.bel.size _).setCell h.tw _, h.tw, h.lt, by simp [hs]; omega, ?_, fun k hk => ?_⟩
  · refine ⟨cs.setIfInBounds K (.slice (some ⟨V.heap.size, 0, none⟩) n n), ?_, by simpa using hz, fun k hk => ?_⟩
    · show ((V.alloc (.cells (zBools n) 4)).heap.modify top _)[top]? = _
      rw [Array.getElem?_modify, if_pos rfl, Below.heap_alloc _ _ _ htl, ht]; rfl
    · by_cases e : k = K
      · subst e
        rw [Array.getElem?_setIfInBounds_self_of_lt (by omega), hs]
      · rw [Array.getElem?_setIfInBounds_ne (fun h => e h.symm)]
        exact hc k (by omega)
  · by_cases e : k = K
    · subst e
      refine ⟨zBools n, ?_, fun i hi => zBools_at hi⟩
      rw [ho _ (by omega), ← hs]; exact heap_alloc_new V _
    · obtain ⟨c, h1, h2⟩ := h.row k (by omega)
      exact ⟨c, by rw [ho _ (by omega), Below.heap_alloc _ _ _ (lt_heap h1)]; exact h1, h2⟩
theorem HalfG.done (h : HalfG w V top base A n A) : Grid V top base A n (fun _ _ => false) := by
  obtain ⟨cs, ht, _, hc⟩ := h.top
  exact ⟨h.lt, ⟨cs, ht, hc⟩, h.row⟩
theorem HalfG.drew (h : HalfG w V top base A n K) : HalfG w V.drew top base A n K := ⟨h.bel.drew, h.tw, h.lt, h.size, h.top, h.row⟩
end
end Go.Proofs.YtdbjkcpjpmglkaaDoor
