import Derived.Test.YthmbbiahnfpoeaaDoorRowsP
import Derived.Test.YthmbbiahnfpoeaaDoorPart
namespace Go.Proofs.YthmbbiahnfpoeaaDoor
open Go.RowKit

theorem getD_inj {L : List Nat} (hnd : L.Nodup) {k k' : Nat} (hk : k < L.length) (hk' : k' < L.length) (h : L.getD k 0 = L.getD k' 0) : k = k' := by
  rw [List.getD_eq_getElem?_getD, List.getD_eq_getElem?_getD, List.getElem?_eq_getElem hk, List.getElem?_eq_getElem hk'] at h
  exact (List.getElem_inj hnd).1 h
theorem getD_mem {L : List Nat} {k : Nat} (hk : k < L.length) : L.getD k 0 ∈ L := by
  rw [List.getD_eq_getElem?_getD, List.getElem?_eq_getElem hk]
  exact List.getElem_mem hk
theorem idxOf_getD {L : List Nat} (hnd : L.Nodup) {k : Nat} (hk : k < L.length) : L.idxOf (L.getD k 0) = k :=
  getD_inj hnd (idx_lt (getD_mem hk)) hk (getD_idxOf (getD_mem hk))
def setN (N : Nat → Nat → Nat → Nat) (c i j x : Nat) : Nat → Nat → Nat → Nat := fun c' i' j' => if c' = c ∧ i' = i ∧ j' = j then x else N c' i' j'
section
variable {w w' : World} {pb top base q g cap B : Nat} {v s : ByteArray} {R : List (Nat × Nat)} {L : List Nat} {N : Nat → Nat → Nat → Nat}
theorem ProgAt.set (h : ProgAt w pb top base q g cap B v s R L N) (hnd : L.Nodup) (hf : pb < base ∧ q < base ∧ g < base ∧ B < base) {k i j x : Nat} (hk : k < L.length) (hi : i ≤ v.size) (hj : j ≤ v.size) :
    ProgAt (w.setCell ⟨tb base v.size k + (i + 1), j, none⟩ (.int .i64 x)) pb top base q g cap B v s R L (setN N (L.getD k 0) i j x) := by
  have hge := tb_ge base v.size k
  have hg := grown_set w (tb base v.size k + (i + 1)) j (.int .i64 x)
  refine ⟨?_, ?_, h.gr.grown hg (by simp; omega) (by simp; omega) (by simp; omega), by simpa using h.gl, by simpa using h.Bl⟩
  · exact (hg.block pb (lt_heap h.blk) (by simp; omega)).trans h.blk
  · refine (h.cube.set (v := x) hk hi hj).congr fun k' i' j' hk' _ _ => ?_
    unfold setM setN
    by_cases e : k' = k
    · subst e; simp
    · rw [if_neg (fun hh => e hh.1), if_neg (fun hh => e (getD_inj hnd hk' hk hh.1))]
theorem ProgAt.congr (h : ProgAt w pb top base q g cap B v s R L N) {M : Nat → Nat → Nat → Nat} (he : ∀ c i j, c ∈ L → i ≤ v.size → j ≤ v.size → N c i j = M c i j) : ProgAt w pb top base q g cap B v s R L M :=
  ⟨h.blk, h.cube.congr fun _ i j hk hi hj => he _ i j (getD_mem hk) hi hj, h.gr, h.gl, h.Bl⟩
theorem ProgAt.kept (h : ProgAt w pb top base q g cap B v s R L N) (hf : pb < base ∧ q < base ∧ g < base ∧ B < base) {b : Nat} (hb : base + L.length * (v.size + 2) ≤ b) (hg : w.grownBy w' (some b)) : ProgAt w' pb top base q g cap B v s R L N := by
  have hsz := hg.size
  refine ⟨(hg.block pb (lt_heap h.blk) (by simp; omega)).trans h.blk, ?_, h.gr.grown hg (by simp; omega) (by simp; omega) (by simp; omega), Nat.lt_of_lt_of_le h.gl hsz, Nat.lt_of_lt_of_le h.Bl hsz⟩
  have hl := h.cube.lt
  refine ⟨h.cube.lt, ?_, fun k hk => ?_, fun k i hk hi => ?_⟩
  · obtain ⟨cs, h1, h2⟩ := h.cube.top; exact ⟨cs, (hg.block _ (lt_heap h1) (by simp; omega)).trans h1, h2⟩
  · obtain ⟨cs, h1, h2⟩ := h.cube.tbl k hk
    have := tb_lt (base := base) (n := v.size) (i := 0) hk (by omega)
    exact ⟨cs, (hg.block _ (lt_heap h1) (by simp; omega)).trans h1, h2⟩
  · obtain ⟨cs, h1, h2⟩ := h.cube.row k i hk hi
    have := tb_lt (base := base) (n := v.size) (i := i + 1) hk (by omega)
    exact ⟨cs, (hg.block _ (lt_heap h1) (by simp; omega)).trans h1, h2⟩
end

/-- The sums of one piece: of each name, by its number. -/
def SumL (w : World) (sb : Nat) (L : List Nat) (F : Nat → Nat) : Prop := ∃ cs : Array Value, w.heap[sb]? = some (.cells cs 3 (0, 0)) ∧ ∀ k, k < L.length → cs[k]? = some (.int .i64 (F (L.getD k 0)))
section
variable {w w' : World} {sb : Nat} {L : List Nat} {F : Nat → Nat}
theorem SumL.at (h : SumL w sb L F) {k : Nat} (hk : k < L.length) : w.cell? ⟨sb, k, none⟩ = some (.int .i64 (F (L.getD k 0))) := by
  obtain ⟨cs, h1, h2⟩ := h
  simp [World.cell?, h1, h2 k hk]
theorem SumL.frozen (h : SumL w sb L F) (k : Nat) : w.frozen? ⟨sb, k, none⟩ = false := by
  obtain ⟨cs, hh, hc⟩ := h
  simp [World.frozen?, hh]
theorem SumL.lt (h : SumL w sb L F) : sb < w.heap.size := by
  obtain ⟨cs, hh, hc⟩ := h
  exact lt_heap hh
theorem SumL.grown (h : SumL w sb L F) {row : Option Nat} (hg : w.grownBy w' row) (hne : some sb ≠ row) : SumL w' sb L F := by
  obtain ⟨cs, hh, hc⟩ := h
  exact ⟨cs, (hg.block sb (lt_heap hh) hne).trans hh, hc⟩
theorem SumL.congr (h : SumL w sb L F) {G : Nat → Nat} (he : ∀ c ∈ L, F c = G c) : SumL w sb L G := by
  obtain ⟨cs, hh, hc⟩ := h
  exact ⟨cs, hh, fun k hk => by rw [hc k hk, he _ (getD_mem hk)]⟩
theorem SumL.set (h : SumL w sb L F) (hnd : L.Nodup) {c x : Nat} (hc : c ∈ L) : SumL (w.setCell ⟨sb, L.idxOf c, none⟩ (.int .i64 x)) sb L (fun d => if d = c then x else F d) := by
  obtain ⟨cs, hh, hcs⟩ := h
  have hix := idx_lt hc
  refine ⟨cs.setIfInBounds (L.idxOf c) (.int .i64 x), ?_, fun k hk => ?_⟩
  · show (w.heap.modify sb _)[sb]? = _
    rw [Array.getElem?_modify, if_pos rfl, hh]; rfl
  · by_cases e : k = L.idxOf c
    · subst e
      have hs : L.idxOf c < cs.size := by
        rcases Nat.lt_or_ge (L.idxOf c) cs.size with h | h
        · exact h
        · have := hcs _ hk; rw [Array.getElem?_eq_none h] at this; cases this
      rw [Array.getElem?_setIfInBounds_self_of_lt hs, getD_idxOf hc]
      simp
    · rw [Array.getElem?_setIfInBounds_ne (fun h => e h.symm), hcs k hk]
      show _ = some (Value.int .i64 ↑(if L.getD k 0 = c then x else F (L.getD k 0)))
      rw [if_neg (fun hh => e (by rw [← hh, idxOf_getD hnd hk]))]
end
theorem make65n (n : Nat) (hn : n ≤ 100) (w : World) : (Instr.makeSlice 65 (.int .i64 (n : Int)) (.int .i64 (n : Int))).run Tryd.prog w = .ok (.slice (some ⟨w.heap.size, 0, none⟩) n n) (w.alloc (.cells (zInts n) 3)) := by
  obtain ⟨i0, hi, hz0, hz1, hz2⟩ := info_parts Tryd.info3
  have h := run_make (P := Tryd.prog) w 65 3 i0 (.int .i64 0) Tryd.underlying65 hi hz0 .i64 .i64 (n : Int) (n : Int) (by omega) (by omega) (by rw [hz2]; omega) (by omega)
  rw [h, hz1, Int.toNat_natCast]; simp [zInts]
theorem sumL_made (w : World) (L : List Nat) : SumL (w.alloc (.cells (zInts L.length) 3)) w.heap.size L (fun _ => 0) :=
  ⟨zInts L.length, heap_alloc_new w _, fun _ hk => zInts_at hk⟩

namespace Pu
/-- The counts when the first m names of a piece are set. -/
def partN (N : Nat → Nat → Nat → Nat) (P : Nat → Nat) (L : List Nat) (i0 j0 m : Nat) : Nat → Nat → Nat → Nat := fun c i j => if i = i0 ∧ j = j0 ∧ c ∈ L.take m then max (N c i j) (P c) else N c i j
/-- Whether one of the first m names has grown. -/
def Found (N : Nat → Nat → Nat → Nat) (P : Nat → Nat) (L : List Nat) (i0 j0 m : Nat) (b : Bool) : Prop :=
  (b = true → ∃ c ∈ L.take m, N c i0 j0 < P c) ∧ (b = false → ∀ c ∈ L.take m, P c ≤ N c i0 j0)
theorem take_getD {L : List Nat} {m : Nat} (h : m < L.length) (c : Nat) : c ∈ L.take (m + 1) ↔ c ∈ L.take m ∨ c = L.getD m 0 := by
  rw [List.take_succ_eq_append_getElem h, List.mem_append, List.mem_singleton, List.getD_eq_getElem?_getD, List.getElem?_eq_getElem h]; rfl
theorem notin_take {L : List Nat} (hnd : L.Nodup) {m : Nat} (h : m < L.length) : L.getD m 0 ∉ L.take m := fun hh => by
  have h2 := List.getElem_mem h
  obtain ⟨k, hk, e⟩ := List.mem_iff_getElem.1 hh
  rw [List.length_take] at hk
  rw [List.getElem_take] at e
  have hk' : k < L.length := by omega
  have : k = m := getD_inj hnd hk' h (by rw [← e, List.getD_eq_getElem?_getD, List.getElem?_eq_getElem hk']; rfl)
  omega
theorem partN_zero (N : Nat → Nat → Nat → Nat) (P : Nat → Nat) (L : List Nat) (i0 j0 : Nat) : partN N P L i0 j0 0 = N := by
  funext c i j; unfold partN; simp
theorem partN_at {N : Nat → Nat → Nat → Nat} {P : Nat → Nat} {L : List Nat} {i0 j0 m : Nat} (hnd : L.Nodup) (h : m < L.length) : partN N P L i0 j0 m (L.getD m 0) i0 j0 = N (L.getD m 0) i0 j0 := by
  unfold partN; rw [if_neg (fun hh => notin_take hnd h hh.2.2)]
theorem partN_set {N : Nat → Nat → Nat → Nat} {P : Nat → Nat} {L : List Nat} {i0 j0 m : Nat} (h : m < L.length) (hlt : N (L.getD m 0) i0 j0 < P (L.getD m 0)) (c i j : Nat) :
    setN (partN N P L i0 j0 m) (L.getD m 0) i0 j0 (P (L.getD m 0)) c i j = partN N P L i0 j0 (m + 1) c i j := by
  unfold setN partN
  by_cases e : i = i0 ∧ j = j0
  · obtain ⟨rfl, rfl⟩ := e
    simp only [true_and, and_true, take_getD h]
    generalize L.getD m 0 = d at *
    by_cases ec : c = d
    · subst ec; simp; omega
    · simp [ec]
  · rw [if_neg (fun hh => e hh.2), if_neg (fun hh => e ⟨hh.1, hh.2.1⟩), if_neg (fun hh => e ⟨hh.1, hh.2.1⟩)]
theorem partN_same {N : Nat → Nat → Nat → Nat} {P : Nat → Nat} {L : List Nat} {i0 j0 m : Nat} (h : m < L.length) (hge : P (L.getD m 0) ≤ N (L.getD m 0) i0 j0) (c i j : Nat) :
    partN N P L i0 j0 m c i j = partN N P L i0 j0 (m + 1) c i j := by
  unfold partN
  by_cases e : i = i0 ∧ j = j0
  · obtain ⟨rfl, rfl⟩ := e
    simp only [true_and, take_getD h]
    generalize L.getD m 0 = d at *
    by_cases ec : c = d
    · subst ec; simp; omega
    · simp [ec]
  · rw [if_neg (fun hh => e ⟨hh.1, hh.2.1⟩), if_neg (fun hh => e ⟨hh.1, hh.2.1⟩)]
theorem Found.start (N : Nat → Nat → Nat → Nat) (P : Nat → Nat) (L : List Nat) (i0 j0 : Nat) : Found N P L i0 j0 0 false := ⟨fun h => (by cases h), fun _ c hc => (by simp at hc)⟩
theorem Found.yes {N : Nat → Nat → Nat → Nat} {P : Nat → Nat} {L : List Nat} {i0 j0 m : Nat} (h : m < L.length) (hlt : N (L.getD m 0) i0 j0 < P (L.getD m 0)) : Found N P L i0 j0 (m + 1) true :=
  ⟨fun _ => ⟨L.getD m 0, (take_getD h _).2 (.inr rfl), hlt⟩, fun h => (by cases h)⟩
theorem Found.no {N : Nat → Nat → Nat → Nat} {P : Nat → Nat} {L : List Nat} {i0 j0 m : Nat} {b : Bool} (hF : Found N P L i0 j0 m b) (h : m < L.length) (hge : P (L.getD m 0) ≤ N (L.getD m 0) i0 j0) : Found N P L i0 j0 (m + 1) b :=
  ⟨fun e => by obtain ⟨c, h1, h2⟩ := hF.1 e; exact ⟨c, (take_getD h _).2 (.inl h1), h2⟩, fun e c hc => by
    rcases (take_getD h c).1 hc with h1 | rfl
    · exact hF.2 e c h1
    · exact hge⟩
end Pu

/-- The chart and the sums beside it. -/
structure Half2 (w V : World) (pb top base q g cap B sb : Nat) (v s : ByteArray) (R : List (Nat × Nat)) (L : List Nat) (N : Nat → Nat → Nat → Nat) (F : Nat → Nat) : Prop where
  ch : ProgAt V pb top base q g cap B v s R L N
  sm : SumL V sb L F
  bel : Below base w V
  far : base + L.length * (v.size + 2) ≤ sb
section
variable {w V V' : World} {pb top base q g cap B sb : Nat} {v s : ByteArray} {R : List (Nat × Nat)} {L : List Nat} {N : Nat → Nat → Nat → Nat} {F : Nat → Nat}
theorem Half2.below (h : Half2 w V pb top base q g cap B sb v s R L N F) (hb : Below V.heap.size V V') : Half2 w V' pb top base q g cap B sb v s R L N F :=
  ⟨h.ch.below hb, h.sm.grown (below_grown hb none) (by simp), h.bel.trans (hb.mono (by have := h.sm.lt; have := h.far; omega)), h.far⟩
theorem Half2.drewN (h : Half2 w V pb top base q g cap B sb v s R L N F) (m : Nat) : Half2 w (V.drewN m) pb top base q g cap B sb v s R L N F := h.below (Go.below_drewN (Below.refl _ _) m)
theorem Half2.alloc (h : Half2 w V pb top base q g cap B sb v s R L N F) (o : Obj) : Half2 w (V.alloc o) pb top base q g cap B sb v s R L N F := h.below ((Below.refl _ _).alloc (Nat.le_refl _) _)
theorem Half2.sum (h : Half2 w V pb top base q g cap B sb v s R L N F) (hnd : L.Nodup) (hf : pb < base ∧ q < base ∧ g < base ∧ B < base) {c x : Nat} (hc : c ∈ L) :
    Half2 w (V.setCell ⟨sb, L.idxOf c, none⟩ (.int .i64 x)) pb top base q g cap B sb v s R L N (fun d => if d = c then x else F d) :=
  ⟨h.ch.kept hf h.far (grown_set V sb _ _), h.sm.set hnd hc, h.bel.setCell (by have := h.far; show base ≤ sb; omega) _, h.far⟩
theorem Half2.count (h : Half2 w V pb top base q g cap B sb v s R L N F) (hnd : L.Nodup) (hf : pb < base ∧ q < base ∧ g < base ∧ B < base) {k i j x : Nat} (hk : k < L.length) (hi : i ≤ v.size) (hj : j ≤ v.size) :
    Half2 w (V.setCell ⟨tb base v.size k + (i + 1), j, none⟩ (.int .i64 x)) pb top base q g cap B sb v s R L (setN N (L.getD k 0) i j x) F := by
  have hl := tb_lt (base := base) (n := v.size) (i := i + 1) hk (by omega)
  have hg := tb_ge base v.size k
  exact ⟨h.ch.set hnd hf hk hi hj, h.sm.grown (grown_set V _ _ _) (by have := h.far; simp; omega), h.bel.setCell (by show base ≤ tb base v.size k + (i + 1); omega) _, h.far⟩
theorem Half2.sums (h : Half2 w V pb top base q g cap B sb v s R L N F) {G : Nat → Nat} (he : ∀ c ∈ L, F c = G c) : Half2 w V pb top base q g cap B sb v s R L N G := ⟨h.ch, h.sm.congr he, h.bel, h.far⟩
theorem Half2.counts (h : Half2 w V pb top base q g cap B sb v s R L N F) {M : Nat → Nat → Nat → Nat} (he : ∀ c i j, c ∈ L → i ≤ v.size → j ≤ v.size → N c i j = M c i j) : Half2 w V pb top base q g cap B sb v s R L M F := ⟨h.ch.congr he, h.sm, h.bel, h.far⟩
end
end Go.Proofs.YthmbbiahnfpoeaaDoor
