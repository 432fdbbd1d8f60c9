import Derived.Test.YthmbbiahnfpoeaaDoorTrees
import Derived.Test.YthmbbiahnfpoeaaDoorSign
import Derived.Test.YthmbbiahnfpoeaaDoorBlank
import Derived.Test.YthmbbiahnfpoeaaDoorFrom
import Derived.WalkKit
import Derived.WalkSpells
import Derived.WalkSmall
import Derived.BigQuiet
import Derived.Deep.QuietTactic
import Derived.Deep.RegionWith
import Derived.Deep.LoopGhost
import Derived.Deep.RegionHeld3
import Derived.Deep.DeepCutAuto
import Derived.Test.YthmbbiahnfpoeaaDoorRefTrees
namespace Go.Proofs.YthmbbiahnfpoeaaDoor
namespace Pu

/-- Will one of m numbers from k on do? -/
def anyIn (f : Nat → Bool) : Nat → Nat → Bool
  | 0, _ => false
  | m + 1, k => f k || anyIn f m (k + 1)
theorem anyIn_iff (f : Nat → Bool) : ∀ m k, anyIn f m k = true ↔ ∃ j, k ≤ j ∧ j < k + m ∧ f j = true
  | 0, k => by simp only [anyIn]; exact ⟨fun h => (by cases h), fun ⟨j, h1, h2, _⟩ => by omega⟩
  | m + 1, k => by
    simp only [anyIn, Bool.or_eq_true]
    rw [anyIn_iff f m (k + 1)]
    constructor
    · rintro (h | ⟨j, h1, h2, h3⟩)
      · exact ⟨k, by omega, by omega, h⟩
      · exact ⟨j, by omega, by omega, h3⟩
    · rintro ⟨j, h1, h2, h3⟩
      by_cases e : j = k
      · subst e; exact .inl h3
      · exact .inr ⟨j, by omega, by omega, h3⟩
theorem anyIn_congr {f g : Nat → Bool} {m k : Nat} (h : ∀ j, k ≤ j → j < k + m → f j = g j) : anyIn f m k = anyIn g m k := by
  rw [Bool.eq_iff_iff, anyIn_iff, anyIn_iff]
  constructor
  · rintro ⟨j, h1, h2, h3⟩; exact ⟨j, h1, h2, by rw [← h j h1 h2]; exact h3⟩
  · rintro ⟨j, h1, h2, h3⟩; exact ⟨j, h1, h2, by rw [h j h1 h2]; exact h3⟩
/-- Can k signs from place a on have a word that begins with what is behind place i of the first n letters? -/
def beg (N : Nat → Nat → Nat → Nat) (v s : ByteArray) (n : Nat) (G : Nat → Nat → Bool) : Nat → Nat → Nat → Bool
  | 0, _, i => decide (i = n)
  | k + 1, a, i =>
    if i = n then true
    else if lt (byt s a) = true then decide (byt v i = byt s a) && beg N v s n G k (a + 1) (i + 1)
    else if G (byt s a) i = true then true
    else anyIn (fun j => decide (0 < N (byt s a) i j) && beg N v s n G k (a + 1) j) (n + 1 - i) i
theorem beg_mono {N : Nat → Nat → Nat → Nat} {v s : ByteArray} {n : Nat} {G G' : Nat → Nat → Bool} (h : ∀ c i, i < n → G c i = true → G' c i = true) : ∀ k a i, i ≤ n → beg N v s n G k a i = true → beg N v s n G' k a i = true
  | 0, _, _, _, hb => hb
  | k + 1, a, i, hi, hb => by
    simp only [beg] at hb ⊢
    by_cases e : i = n
    · rw [if_pos e]
    · rw [if_neg e] at hb ⊢
      by_cases hl : lt (byt s a) = true
      · rw [if_pos hl] at hb ⊢
        rw [Bool.and_eq_true] at hb ⊢
        exact ⟨hb.1, beg_mono h k (a + 1) (i + 1) (by omega) hb.2⟩
      · rw [if_neg hl] at hb ⊢
        by_cases hg : G (byt s a) i = true
        · rw [if_pos (h _ _ (by omega) hg)]
        · rw [if_neg hg] at hb
          split
          · rfl
          · rw [anyIn_iff] at hb ⊢
            obtain ⟨j, h1, h2, h3⟩ := hb
            rw [Bool.and_eq_true] at h3
            exact ⟨j, h1, h2, by rw [Bool.and_eq_true]; exact ⟨h3.1, beg_mono h k (a + 1) j (by omega) h3.2⟩⟩
theorem beg_congr {N M : Nat → Nat → Nat → Nat} {u v s : ByteArray} {n : Nat} {G G' : Nat → Nat → Bool} (hv : ∀ x, x < n → byt u x = byt v x) (hN : ∀ c i j, i ≤ j → j ≤ n → N c i j = M c i j) (hG : ∀ c i, i < n → G c i = G' c i) : ∀ k a i, i ≤ n → beg N u s n G k a i = beg M v s n G' k a i
  | 0, _, _, _ => rfl
  | k + 1, a, i, hi => by
    simp only [beg]
    by_cases e : i = n
    · rw [if_pos e, if_pos e]
    · rw [if_neg e, if_neg e, hv i (by omega), hG _ i (by omega), beg_congr hv hN hG k (a + 1) (i + 1) (by omega)]
      have : anyIn (fun j => decide (0 < N (byt s a) i j) && beg N u s n G k (a + 1) j) (n + 1 - i) i = anyIn (fun j => decide (0 < M (byt s a) i j) && beg M v s n G' k (a + 1) j) (n + 1 - i) i :=
        anyIn_congr fun j h1 h2 => by rw [hN _ i j h1 (by omega), beg_congr hv hN hG k (a + 1) j (by omega)]
      rw [this]
/-- A name opens at a place by one of its rules. -/
def Opens (N : Nat → Nat → Nat → Nat) (v s : ByteArray) (R : List (Nat × Nat)) (n : Nat) (G : Nat → Nat → Bool) (c i : Nat) : Prop :=
  ∃ r ∈ R, byt s r.1 = c ∧ beg N v s n G (r.2 - (r.1 + 2)) (r.1 + 2) i = true
def ClosedB (N : Nat → Nat → Nat → Nat) (v s : ByteArray) (R : List (Nat × Nat)) (n : Nat) (G : Nat → Nat → Bool) : Prop := ∀ c i, i < n → Opens N v s R n G c i → G c i = true
def Under (N : Nat → Nat → Nat → Nat) (v s : ByteArray) (R : List (Nat × Nat)) (n : Nat) (G : Nat → Nat → Bool) : Prop := ∀ G', ClosedB N v s R n G' → ∀ c i, i < n → G c i = true → G' c i = true
/-- What opens: closed, and no more. -/
structure Lfp (N : Nat → Nat → Nat → Nat) (v s : ByteArray) (R : List (Nat × Nat)) (n : Nat) (G : Nat → Nat → Bool) : Prop where
  closed : ClosedB N v s R n G
  under : Under N v s R n G
def addG (G : Nat → Nat → Bool) (c i : Nat) : Nat → Nat → Bool := fun c' i' => if c' = c ∧ i' = i then true else G c' i'
section
variable {N M : Nat → Nat → Nat → Nat} {u v s : ByteArray} {R : List (Nat × Nat)} {n : Nat} {G G' : Nat → Nat → Bool}
theorem Lfp.unique (h : Lfp N v s R n G) (k : Lfp N v s R n G') {c i : Nat} (hi : i < n) : G c i = G' c i := by
  rw [Bool.eq_iff_iff]
  exact ⟨h.under G' k.closed c i hi, k.under G h.closed c i hi⟩
theorem Under.start : Under N v s R n (fun _ _ => false) := fun _ _ _ _ _ h => by cases h
theorem Under.add (h : Under N v s R n G) {r : Nat × Nat} (hr : r ∈ R) {i : Nat} (hb : beg N v s n G (r.2 - (r.1 + 2)) (r.1 + 2) i = true) : Under N v s R n (addG G (byt s r.1) i) := by
  intro G' hc c i' hi' hg
  unfold addG at hg
  split at hg
  · rename_i e
    obtain ⟨rfl, rfl⟩ := e
    exact hc _ _ hi' ⟨r, hr, rfl, beg_mono (h G' hc) _ _ _ (by omega) hb⟩
  · exact h G' hc c i' hi' hg
theorem Under.congr (h : Under N v s R n G) (he : ∀ c i, i < n → G' c i = true → G c i = true) : Under N v s R n G' := fun G'' hc c i hi hg => h G'' hc c i hi (he c i hi hg)
theorem Lfp.congr (h : Lfp N v s R n G) (he : ∀ c i, i < n → G c i = G' c i) : Lfp N v s R n G' := by
  refine ⟨fun c i hi ho => ?_, h.under.congr fun c i hi hg => by rw [he c i hi]; exact hg⟩
  obtain ⟨r, h1, h2, h3⟩ := ho
  rw [← he c i hi]
  refine h.closed c i hi ⟨r, h1, h2, ?_⟩
  rw [← h3]
  exact beg_congr (fun _ _ => rfl) (fun _ _ _ _ _ => rfl) he _ _ _ (by omega)
theorem closedB_cut (hv : ∀ x, x < n → byt u x = byt v x) (hN : ∀ c i j, i ≤ j → j ≤ n → N c i j = M c i j) (h : ClosedB N u s R n G) : ClosedB M v s R n G := fun c i hi ⟨r, h1, h2, h3⟩ =>
  h c i hi ⟨r, h1, h2, by rw [← h3]; exact beg_congr hv hN (fun _ _ _ => rfl) _ _ _ (by omega)⟩
theorem Lfp.cut (h : Lfp N u s R n G) (hv : ∀ x, x < n → byt u x = byt v x) (hN : ∀ c i j, i ≤ j → j ≤ n → N c i j = M c i j) : Lfp M v s R n G :=
  ⟨closedB_cut hv hN h.closed, fun G' hc => h.under G' (closedB_cut (fun x hx => (hv x hx).symm) (fun c i j h1 h2 => (hN c i j h1 h2).symm) hc)⟩
end
theorem ways_cut {N M : Nat → Nat → Nat → Nat} {u v s : ByteArray} {n : Nat} (hv : ∀ x, x < n → byt u x = byt v x) (hN : ∀ c i j, i ≤ j → j ≤ n → N c i j = M c i j) : ∀ k a i j, j ≤ n → ways N u s k a i j = ways M v s k a i j
  | 0, _, _, _, _ => rfl
  | k + 1, a, i, j, hj => by
    simp only [ways]
    by_cases hl : lt (byt s a) = true
    · rw [if_pos hl, if_pos hl, ways_cut hv hN k (a + 1) (i + 1) j hj]
      by_cases hij : i < j
      · rw [hv i (by omega)]
      · rw [if_neg (fun h => hij h.1), if_neg (fun h => hij h.1)]
    · rw [if_neg hl, if_neg hl]
      exact acc_congr _ _ _ fun c h1 h2 => by rw [hN _ i c h1 (by omega), ways_cut hv hN k (a + 1) c j hj]
theorem phiL_cut {N M : Nat → Nat → Nat → Nat} {u v s : ByteArray} {n c i j : Nat} (hv : ∀ x, x < n → byt u x = byt v x) (hN : ∀ c i j, i ≤ j → j ≤ n → N c i j = M c i j) (hj : j ≤ n) : ∀ (R : List (Nat × Nat)) (x : Nat), phiL N u s c i j R x = phiL M v s c i j R x
  | [], _ => rfl
  | r :: R, x => by
    simp only [phiL]
    rw [ways_cut hv hN _ _ _ _ hj]
    exact phiL_cut hv hN hj R _
theorem lvl_cut {u v s : ByteArray} {R : List (Nat × Nat)} {n : Nat} (hv : ∀ x, x < n → byt u x = byt v x) : ∀ m c i j, i ≤ j → j ≤ n → lvl u s R m c i j = lvl v s R m c i j
  | 0, _, _, _, _, _ => rfl
  | m + 1, _, _, _, _, hj => phiL_cut hv (fun c i j h1 h2 => lvl_cut hv m c i j h1 h2) hj R 0
theorem Cnt.cut {u v s : ByteArray} {R : List (Nat × Nat)} {n n' m : Nat} (h : Cnt v s R n' (lvl v s R m)) (hn : n ≤ n') (hv : ∀ x, x < n → byt u x = byt v x) : Cnt u s R n (lvl u s R m) :=
  ⟨⟨m, fun _ _ _ _ _ => rfl⟩, fun c i j hi hj => by
    have e1 : phi u s R (lvl u s R m) c i j = phi v s R (lvl v s R m) c i j := phiL_cut hv (fun c i j h1 h2 => lvl_cut hv m c i j h1 h2) hj R 0
    rw [e1, h.2 c i j hi (by omega), lvl_cut hv m c i j hi hj]⟩
/-- Whether some word begins with the first n letters. -/
def Bg (N : Nat → Nat → Nat → Nat) (v s : ByteArray) (R : List (Nat × Nat)) (c n : Nat) (b : Bool) : Prop := ∃ G, Lfp N v s R n G ∧ b = G c 0
theorem Bg.unique {N : Nat → Nat → Nat → Nat} {v s : ByteArray} {R : List (Nat × Nat)} {c n : Nat} {b b' : Bool} (h : Bg N v s R c n b) (k : Bg N v s R c n b') (hn : 0 < n) : b = b' := by
  obtain ⟨G, h1, rfl⟩ := h
  obtain ⟨G', k1, rfl⟩ := k
  exact h1.unique k1 hn
/-- The longest of them, from k letters down. -/
def Pfx (N : Nat → Nat → Nat → Nat) (v s : ByteArray) (R : List (Nat × Nat)) (c : Nat) : Nat → Nat → Prop
  | 0, p => p = 0
  | k + 1, p => (Bg N v s R c (k + 1) true ∧ p = k + 1) ∨ (Bg N v s R c (k + 1) false ∧ Pfx N v s R c k p)
theorem Pfx.unique {N : Nat → Nat → Nat → Nat} {v s : ByteArray} {R : List (Nat × Nat)} {c : Nat} : ∀ k p p', Pfx N v s R c k p → Pfx N v s R c k p' → p = p'
  | 0, _, _, h, h' => by simp only [Pfx] at h h'; omega
  | k + 1, p, p', h, h' => by
    simp only [Pfx] at h h'
    rcases h with ⟨h1, rfl⟩ | ⟨h1, h2⟩ <;> rcases h' with ⟨g1, rfl⟩ | ⟨g1, g2⟩
    · rfl
    · exact absurd (h1.unique g1 (by omega)) (by decide)
    · exact absurd (h1.unique g1 (by omega)) (by decide)
    · exact Pfx.unique k p p' h2 g2
end Pu
end Go.Proofs.YthmbbiahnfpoeaaDoor

namespace Go.Proofs.YthmbbiahnfpoeaaDoor
open Go.RowKit

/-- Two storeys of slices of truths. -/
structure Grid (w : World) (top base A n : Nat) (G : Nat → Nat → Bool) : Prop where
  lt : top < base
  top : ∃ cs : Array Value, w.heap[top]? = some (.cells cs 56 (0, 0)) ∧ ∀ k, k < A → cs[k]? = some (.slice (some ⟨base + k, 0, none⟩) n n)
  row : ∀ k, k < A → ∃ cs : Array Value, w.heap[base + k]? = some (.cells cs 4 (0, 0)) ∧ ∀ i, i < n → cs[i]? = some (.bool (G k i))
section
variable {w w' : World} {top base A n : Nat} {G : Nat → Nat → Bool}
theorem Grid.c1 (h : Grid w top base A n G) {k : Nat} (hk : k < A) : w.cell? ⟨top, k, none⟩ = some (.slice (some ⟨base + k, 0, none⟩) n n) := by
  obtain ⟨cs, h1, h2⟩ := h.top
  simp [World.cell?, h1, h2 k hk]
theorem Grid.c2 (h : Grid w top base A n G) {k i : Nat} (hk : k < A) (hi : i < n) : w.cell? ⟨base + k, i, none⟩ = some (.bool (G k i)) := by
  obtain ⟨cs, h1, h2⟩ := h.row k hk
  simp [World.cell?, h1, h2 i hi]
theorem Grid.frozen (h : Grid w top base A n G) {k : Nat} (hk : k < A) (i : Nat) : w.frozen? ⟨base + k, i, none⟩ = false := by
  obtain ⟨cs, h1, h2⟩ := h.row k hk
  simp [World.frozen?, h1]
theorem Grid.kept (h : Grid w top base A n G) (hg : ∀ b, (b = top ∨ (base ≤ b ∧ b < base + A)) → w'.heap[b]? = w.heap[b]?) : Grid w' top base A n G := by
  refine ⟨h.lt, ?_, fun k hk => ?_⟩
  · obtain ⟨cs, h1, h2⟩ := h.top; exact ⟨cs, by rw [hg _ (.inl rfl)]; exact h1, h2⟩
  · obtain ⟨cs, h1, h2⟩ := h.row k hk; exact ⟨cs, by rw [hg _ (.inr ⟨by omega, by omega⟩)]; exact h1, h2⟩
theorem Grid.below (h : Grid w top base A n G) (hb : Below w.heap.size w w') : Grid w' top base A n G := by
  refine ⟨h.lt, ?_, fun k hk => ?_⟩
  · obtain ⟨cs, h1, h2⟩ := h.top; exact ⟨cs, by rw [hb.block _ (lt_heap h1)]; exact h1, h2⟩
  · obtain ⟨cs, h1, h2⟩ := h.row k hk; exact ⟨cs, by rw [hb.block _ (lt_heap h1)]; exact h1, h2⟩
theorem Grid.congr (h : Grid w top base A n G) {G' : Nat → Nat → Bool} (he : ∀ k i, k < A → i < n → G k i = G' k i) : Grid w top base A n G' :=
  ⟨h.lt, h.top, fun k hk => by obtain ⟨cs, h1, h2⟩ := h.row k hk; exact ⟨cs, h1, fun i hi => by rw [h2 i hi, he k i hk hi]⟩⟩
theorem Grid.set (h : Grid w top base A n G) {k i : Nat} (hk : k < A) : Grid (w.setCell ⟨base + k, i, none⟩ (.bool true)) top base A n (Pu.addG G k i) := by
  have ho : ∀ b, b ≠ base + k → (w.setCell ⟨base + k, i, none⟩ (.bool true)).heap[b]? = w.heap[b]? := fun b hb => Below.heap_setCell _ _ _ _ hb
  have hlt := h.lt
  refine ⟨h.lt, ?_, fun k' hk' => ?_⟩
  · obtain ⟨cs, h1, h2⟩ := h.top
    exact ⟨cs, by rw [ho _ (by omega)]; exact h1, h2⟩
  · obtain ⟨cs, h1, h2⟩ := h.row k' hk'
    by_cases e : k' = k
    · subst e
      refine ⟨cs.setIfInBounds i (.bool true), ?_, fun i' hi' => ?_⟩
      · show (w.heap.modify (base + k') _)[base + k']? = _
        rw [Array.getElem?_modify, if_pos rfl, h1]; rfl
      · by_cases e : i' = i
        · subst e
          have hs : i' < cs.size := by
            rcases Nat.lt_or_ge i' cs.size with h | h
            · exact h
            · have := h2 i' hi'; rw [Array.getElem?_eq_none h] at this; cases this
          rw [Array.getElem?_setIfInBounds_self_of_lt hs]
          simp [Pu.addG]
        · rw [Array.getElem?_setIfInBounds_ne (fun h => e h.symm), h2 i' hi']
          simp [Pu.addG, e]
    · refine ⟨cs, by rw [ho _ (by omega)]; exact h1, fun i' hi' => ?_⟩
      rw [h2 i' hi']
      simp [Pu.addG, e]
end

def zBools (k : Nat) : Array Value := madeCells (Value.bool false).cells k
theorem zBools_at {k j : Nat} (h : j < k) : (zBools k)[j]? = some (.bool false) := by
  have hcz : (Value.bool false).cells = #[.bool false] := by simp [Value.cells]
  simp [zBools, madeCells, h, hcz, Nat.mod_one]
theorem Tryd.infoB4 : (Tryd.prog.info? 4).map (fun i => (i.zero, i.size, i.bytes)) = some (some (.bool false), 1, 1) := by kernel_rfl
theorem Tryd.infoB56 : (Tryd.prog.info? 56).map (fun i => (i.zero, i.size, i.bytes)) = some (some (.slice none 0 0), 1, 24) := by kernel_rfl
theorem make108 (n : Nat) (hn : n ≤ 100) (w : World) : (Instr.makeSlice 108 (.int .i64 (n : Int)) (.int .i64 (n : Int))).run Tryd.prog w = .ok (.slice (some ⟨w.heap.size, 0, none⟩) n n) (w.alloc (.cells (zNil n) 56)) := by
  obtain ⟨i0, hi, hz0, hz1, hz2⟩ := info_parts Tryd.infoB56
  have h := run_make (P := Tryd.prog) w 108 56 i0 (.slice none 0 0) Tryd.underlying108 hi hz0 .i64 .i64 (n : Int) (n : Int) (by omega) (by omega) (by rw [hz2]; omega) (by omega)
  rw [h, hz1, Int.toNat_natCast]; simp [zNil]
theorem make56 (n : Nat) (hn : n ≤ 100) (w : World) : (Instr.makeSlice 56 (.int .i64 (n : Int)) (.int .i64 (n : Int))).run Tryd.prog w = .ok (.slice (some ⟨w.heap.size, 0, none⟩) n n) (w.alloc (.cells (zBools n) 4)) := by
  obtain ⟨i0, hi, hz0, hz1, hz2⟩ := info_parts Tryd.infoB4
  have h := run_make (P := Tryd.prog) w 56 4 i0 (.bool false) Tryd.underlying56 hi hz0 .i64 .i64 (n : Int) (n : Int) (by omega) (by omega) (by rw [hz2]; omega) (by omega)
  rw [h, hz1, Int.toNat_natCast]; simp [zBools]

/-- A grid in the making: K rows. -/
structure HalfG (w V : World) (top base A n K : Nat) : Prop where
  bel : Below w.heap.size w V
  tw : w.heap.size ≤ top
  lt : top < base
  size : V.heap.size = base + K
  top : ∃ cs : Array Value, V.heap[top]? = some (.cells cs 56 (0, 0)) ∧ cs.size = A ∧ ∀ k, k < K → cs[k]? = some (.slice (some ⟨base + k, 0, none⟩) n n)
  row : ∀ k, k < K → ∃ cs : Array Value, V.heap[base + k]? = some (.cells cs 4 (0, 0)) ∧ ∀ i, i < n → cs[i]? = some (.bool false)
section
variable {w V : World} {top base A n K : Nat}
theorem HalfG.start {w V : World} {base A n : Nat} (o : Nat) (h1 : Below w.heap.size w V) (ho : V.heap[o]? = some (.cells (zNil A) 56 (0, 0))) (h2 : w.heap.size ≤ o) (h3 : o < base) (h4 : V.heap.size = base) : HalfG w V o base A n 0 :=
  ⟨h1, h2, h3, h4, ⟨zNil A, ho, zNil_size A, fun k hk => by omega⟩, fun k hk => by omega⟩
theorem HalfG.addRow (h : HalfG w V top base A n K) (hK : K < A) : HalfG w ((V.setCell ⟨top, K, none⟩ (.slice (some ⟨V.heap.size, 0, none⟩) n n)).alloc (.cells (zBools n) 4)) top base A n (K + 1) := by
  have hs := h.size
  obtain ⟨cs, ht, hz, hc⟩ := h.top
  have htl := lt_heap ht
  have hlt := h.lt
  rw [← alloc_set_comm htl]
  have ho : ∀ b, b ≠ top → ((V.alloc (.cells (zBools n) 4)).setCell ⟨top, K, none⟩ (.slice (some ⟨V.heap.size, 0, none⟩) n n)).heap[b]? = (V.alloc (.cells (zBools n) 4)).heap[b]? := fun b hb => Below.heap_setCell _ _ _ _ hb
  refine ⟨(h.bel.alloc h.bel.size _).setCell h.tw _, h.tw, h.lt, by simp [hs]; omega, ?_, fun k hk => ?_⟩
  · refine ⟨cs.setIfInBounds K (.slice (some ⟨V.heap.size, 0, none⟩) n n), ?_, by simpa using hz, fun k hk => ?_⟩
    · show ((V.alloc (.cells (zBools n) 4)).heap.modify top _)[top]? = _
      rw [Array.getElem?_modify, if_pos rfl, Below.heap_alloc _ _ _ htl, ht]; rfl
    · by_cases e : k = K
      · subst e
        rw [Array.getElem?_setIfInBounds_self_of_lt (by omega), hs]
      · rw [Array.getElem?_setIfInBounds_ne (fun h => e h.symm)]
        exact hc k (by omega)
  · by_cases e : k = K
    · subst e
      refine ⟨zBools n, ?_, fun i hi => zBools_at hi⟩
      rw [ho _ (by omega), ← hs]; exact heap_alloc_new V _
    · obtain ⟨c, h1, h2⟩ := h.row k (by omega)
      exact ⟨c, by rw [ho _ (by omega), Below.heap_alloc _ _ _ (lt_heap h1)]; exact h1, h2⟩
theorem HalfG.done (h : HalfG w V top base A n A) : Grid V top base A n (fun _ _ => false) := by
  obtain ⟨cs, ht, _, hc⟩ := h.top
  exact ⟨h.lt, ⟨cs, ht, hc⟩, h.row⟩
theorem HalfG.drew (h : HalfG w V top base A n K) : HalfG w V.drew top base A n K := ⟨h.bel.drew, h.tw, h.lt, h.size, h.top, h.row⟩
end
end Go.Proofs.YthmbbiahnfpoeaaDoor

namespace Go.Proofs.YthmbbiahnfpoeaaDoor
open Go.RowKit

theorem beg_sub {N : Nat → Nat → Nat → Nat} {v s : ByteArray} {n : Nat} {G : Nat → Nat → Bool} {a b : Nat} (hb : b ≤ s.size) : ∀ k a' i, a' + k ≤ b - a → Pu.beg N v (sub s a b) n G k a' i = Pu.beg N v s n G k (a + a') i
  | 0, _, _, _ => rfl
  | k + 1, a', i, h => by
    simp only [Pu.beg]
    rw [byt_sub hb (by omega)]
    have ih := fun i => beg_sub (N := N) (v := v) (n := n) (G := G) (a := a) hb k (a' + 1) i (by omega)
    simp only [ih, Nat.add_assoc]
theorem beg_tail {N : Nat → Nat → Nat → Nat} {v t : ByteArray} {n : Nat} {G : Nat → Nat → Bool} {k i : Nat} (h : t.size = k + 1) : Pu.beg N v (t.extract 1 t.size) n G k 0 i = Pu.beg N v t n G k 1 i :=
  beg_sub (N := N) (v := v) (s := t) (a := 1) (b := t.size) (Nat.le_refl _) k 0 i (by omega)
theorem Grid.drewN {w : World} {top base A n : Nat} {G : Nat → Nat → Bool} (h : Grid w top base A n G) (m : Nat) : Grid (w.drewN m) top base A n G := h.below (Go.below_drewN (Below.refl _ _) m)

set_option maxRecDepth 100000 in
set_option maxHeartbeats 2000000 in
theorem begins_any (cb top base gt gb : Nat) (lv : Value) (v : ByteArray) (N : Nat → Nat → Nat → Nat) (G : Nat → Nat → Bool) (hn : v.size ≤ 24) : ∀ (m : Nat) (t : ByteArray) (i : Nat) (w : World), t.size = m → m ≤ 3 → (∀ a, a < t.size → Pu.sg (Pu.byt t a) = true) → i ≤ v.size → ChartAt w cb top base v.size lv v N → Grid w gt gb 26 (v.size + 1) (fun k i => G (65 + k) i) →
    Calls Tryd.prog 53 #[.pointer (some ⟨cb, 0, none⟩), .string t, .int .i64 i, .slice (some ⟨gt, 0, none⟩) 26 26] w fun e w' => e = .returned (.bool (Pu.beg N v t v.size G m 0 i)) ∧ ∃ q, w' = w.drewN q
  | 0, t, i, w, ht, _, _, hi, h, hg => by
    obtain rfl : t = ⟨#[]⟩ := by
      apply ByteArray.ext
      exact Array.eq_empty_of_size_eq_zero ht
    have c1 := h.c1
    by_cases e : i = v.size
    · subst e
      clear h hg ht
      go_enter Tryd.func53, Tryd.ntmps53
      go_wp2
      go_ret
      exact ⟨by simp [Pu.beg], 0, rfl⟩
    · have e' : ((i : Int) == (v.size : Int)) = false := by simp; omega
      clear h hg ht
      go_enter Tryd.func53, Tryd.ntmps53
      go_wp2
      go_ret
      exact ⟨by simp [Pu.beg, e], 0, rfl⟩
  | m + 1, t, i, w, ht, hm, hsg, hi, h, hg => by
    have ih := hide (begins_any cb top base gt gb lv v N G hn m)
    have h0 : 0 < t.size := by omega
    have hemp : t.toList.isEmpty = false := by
      cases hh : t.toList.isEmpty with
      | false => rfl
      | true =>
        have := (Go.toList_nil_iff_emptyBytes t).1 (List.isEmpty_iff.1 hh)
        rw [this] at ht; simp at ht
    have hs0 := hsg 0 h0
    have hby := Pu.byt_eq h0
    have tsz : (t.extract 1 t.size).size = m := by simp [ByteArray.size_extract]; omega
    have tsg : ∀ a, a < (t.extract 1 t.size).size → Pu.sg (Pu.byt (t.extract 1 t.size) a) = true := fun a ha => by
      have := byt_sub (s := t) (a := 1) (b := t.size) (k := a) (Nat.le_refl _) (by rw [tsz] at ha; omega)
      rw [show Pu.byt (t.extract 1 t.size) a = Pu.byt t (1 + a) from this]
      exact hsg _ (by rw [tsz] at ha; omega)
    have htl := fun i => beg_tail (N := N) (v := v) (n := v.size) (G := G) (i := i) ht
    have HI : Hid (∀ (i : Nat) (w : World), i ≤ v.size → ChartAt w cb top base v.size lv v N → Grid w gt gb 26 (v.size + 1) (fun k i => G (65 + k) i) → Calls Tryd.prog 53 #[.pointer (some ⟨cb, 0, none⟩), .string (t.extract 1 t.size), .int .i64 i, .slice (some ⟨gt, 0, none⟩) 26 26] w fun e w' => e = .returned (.bool (Pu.beg N v t v.size G m 1 i)) ∧ ∃ q, w' = w.drewN q) := by
      intro i w h1 h2 h3
      have := ih.out (t.extract 1 t.size) i w tsz (by omega) tsg h1 h2 h3
      rwa [htl i] at this
    have c1 := h.c1
    clear ih tsz tsg htl hsg
    by_cases e : i = v.size
    · subst e
      have hval : Aside (Pu.beg N v t v.size G (m + 1) 0 v.size = true) := by show _ = _; simp [Pu.beg]
      clear h hg HI hs0 hby ht
      go_enter Tryd.func53, Tryd.ntmps53
      go_wp2
      go_ret
      exact ⟨by rw [hval.out]; rfl, 0, rfl⟩
    · have hiv : i < v.size := by omega
      have e' : ((i : Int) == (v.size : Int)) = false := by simp; omega
      have b1 : (0 : Int) ≤ (i : Int) := by omega
      have b2 : (i : Int) < (v.size : Int) := by omega
      have b3 : (0 : Int) < (t.size : Int) := by omega
      have b31 : (1 : Int) ≤ (t.size : Int) := by omega
      have gl := hide (fun w => isLetter_any t[0].toNat w)
      by_cases hlt : Pu.lt (Pu.byt t 0) = true
      · have hlt' : Pu.lt t[0].toNat = true := by rw [hby]; exact hlt
        by_cases hc : Pu.byt v i = Pu.byt t 0
        · have hval : Aside (Pu.beg N v t v.size G (m + 1) 0 i = Pu.beg N v t v.size G m 1 (i + 1)) := by
            show _ = _
            simp only [Pu.beg]
            rw [if_neg e, if_pos hlt, hc]; simp
          have e1 : ((v[i].toNat : Int) == (t[0].toNat : Int)) = true := by rw [Pu.byt_eq hiv, hby, hc]; exact beq_self_eq_true _
          have HI1 : Hid (∀ d, Calls Tryd.prog 53 #[.pointer (some ⟨cb, 0, none⟩), .string (t.extract 1 t.size), .int .i64 ((i : Int) + 1), .slice (some ⟨gt, 0, none⟩) 26 26] (w.drewN d) fun e w' => e = .returned (.bool (Pu.beg N v t v.size G m 1 (i + 1))) ∧ ∃ q, w' = (w.drewN d).drewN q) := fun d => by
            have := HI.out (i + 1) (w.drewN d) hiv (h.drewN d) (hg.drewN d)
            rwa [show ((i + 1 : Nat) : Int) = (i : Int) + 1 by omega] at this
          clear hlt hc hby hs0 ht HI h hg e
          generalize Pu.beg N v t v.size G m 1 (i + 1) = bb at *
          go_enter Tryd.func53, Tryd.ntmps53
          go_wp2_with (go_at_call 47; refine (gl.out _).mono ?_; rintro e w' ⟨rfl, rfl⟩)
          go_quiet ((go_at_call 53; refine Calls.quiet_of (HI1.out _)))
          go_wp2_with fail
          go_ret
          exact ⟨by rw [hval.out]; rfl, _, rfl⟩
        · have hval : Aside (Pu.beg N v t v.size G (m + 1) 0 i = false) := by
            show _ = _
            simp only [Pu.beg]
            rw [if_neg e, if_pos hlt]; simp [hc]
          have e1 : ((v[i].toNat : Int) == (t[0].toNat : Int)) = false := by rw [Pu.byt_eq hiv, hby]; simp; omega
          clear hlt hc hby hs0 ht HI h hg e
          go_enter Tryd.func53, Tryd.ntmps53
          go_wp2_with (go_at_call 47; refine (gl.out _).mono ?_; rintro e w' ⟨rfl, rfl⟩)
          go_quiet (fail)
          go_wp2_with fail
          go_ret
          exact ⟨by rw [hval.out]; rfl, _, rfl⟩
      · have hlt' : Pu.lt t[0].toNat = false := by rw [hby]; simpa using hlt
        have hnm : Pu.nm (Pu.byt t 0) = true := by
          simp only [Pu.sg, Bool.or_eq_true] at hs0
          exact hs0.resolve_right hlt
        obtain ⟨h65, h90⟩ := (nm_iff _).1 hnm
        rw [← hby] at h65 h90
        have hk0 : t[0].toNat - 65 < 26 := by omega
        have g1 := hg.c1 hk0
        have g2 := hg.c2 hk0 (show i < v.size + 1 by omega)
        simp only [show 65 + (t[0].toNat - 65) = t[0].toNat by omega] at g2
        have g1' : w.cell? ⟨gt, ((t[0].toNat : Int) - 65).toNat, none⟩ = some (.slice (some ⟨gb + (t[0].toNat - 65), 0, none⟩) (v.size + 1) (v.size + 1)) := by rw [show ((t[0].toNat : Int) - 65).toNat = t[0].toNat - 65 by omega]; exact g1
        have e65 : (65 : Int) ≤ (t[0].toNat : Int) := by omega
        have e90 : (t[0].toNat : Int) ≤ 90 := by omega
        have b5 : (i : Int) < (v.size : Int) + 1 := by omega
        have b6 : (0 : Int) ≤ (t[0].toNat : Int) - 65 := by omega
        have b7 : (t[0].toNat : Int) - 65 < 26 := by omega
        by_cases hG : G t[0].toNat i = true
        · rw [hG] at g2
          have hval : Aside (Pu.beg N v t v.size G (m + 1) 0 i = true) := by
            show _ = _
            simp only [Pu.beg]
            rw [if_neg e, if_neg hlt, ← hby, if_pos hG]
          clear hlt hby hs0 ht HI h hg e hnm hG
          generalize gb + (t[0].toNat - 65) = gr at *
          go_enter Tryd.func53, Tryd.ntmps53
          go_wp2_with (go_at_call 47; refine (gl.out _).mono ?_; rintro e w' ⟨rfl, rfl⟩)
          go_ret
          exact ⟨by rw [hval.out]; rfl, 0, rfl⟩
        · have hGf : G t[0].toNat i = false := by simpa using hG
          rw [hGf] at g2
          have hval : Aside (Pu.beg N v t v.size G (m + 1) 0 i = Pu.anyIn (fun j => decide (0 < N t[0].toNat i j) && Pu.beg N v t v.size G m 1 j) (v.size + 1 - i) i) := by
            show _ = _
            rw [hby]
            conv => lhs; unfold Pu.beg
            rw [if_neg e, if_neg hlt, ← hby, if_neg hG]
          obtain ⟨f, hf⟩ : ∃ f : Nat → Bool, f = fun j => decide (0 < N t[0].toNat i j) && Pu.beg N v t v.size G m 1 j := ⟨_, rfl⟩
          rw [← hf] at hval
          have HF := aside_of hf
          clear hlt hby hs0 ht e hnm hG hGf hf
          generalize gb + (t[0].toNat - 65) = gr at *
          go_enter Tryd.func53, Tryd.ntmps53
          go_wp2_with (go_at_call 47; refine (gl.out _).mono ?_; rintro e w' ⟨rfl, rfl⟩)
          clear g1 g1' g2 c1
          go_loopg [10] (v.size + 2 - i) (fun n kv V => ∃ (k d : Nat), kv = .int .i64 k ∧ i ≤ k ∧ k ≤ v.size + 1 ∧ n = v.size + 2 - k ∧ V = w'.drewN d ∧ Pu.anyIn f (v.size + 1 - i) i = Pu.anyIn f (v.size + 1 - k) k)
          case atStart => exact ⟨i, 0, rfl, Nat.le_refl _, by omega, rfl, rfl, rfl⟩
          case round =>
            obtain ⟨k, d, rfl, hik, hkv, rfl, rfl, hac⟩ := hrel
            have HA := aside_of hac
            clear hac
            have c1 := h.c1
            by_cases hkl : k ≤ v.size
            · have c2 := h.c2
              have d1 := h.cube.c1 hk0
              have d1' : w'.cell? ⟨top, ((t[0].toNat : Int) - 65).toNat, none⟩ = some (.slice (some ⟨tb base v.size (t[0].toNat - 65), 0, none⟩) (v.size + 1) (v.size + 1)) := by rw [show ((t[0].toNat : Int) - 65).toNat = t[0].toNat - 65 by omega]; exact d1
              have d2 := h.cube.c2 hk0 hi
              have d3 := h.cube.c3 hk0 hi hkl
              simp only [show 65 + (t[0].toNat - 65) = t[0].toNat by omega] at d3
              have hstep : Aside (Pu.anyIn f (v.size + 1 - k) k = (f k || Pu.anyIn f (v.size + 1 - (k + 1)) (k + 1))) := by
                show _ = _
                rw [show v.size + 1 - k = (v.size + 1 - (k + 1)) + 1 by omega]; rfl
              have hfk : Aside (f k = (decide (0 < N t[0].toNat i k) && Pu.beg N v t v.size G m 1 k)) := by show _ = _; rw [HF.out]
              have HIk := hide (fun q' => HI.out k (w'.drewN q') hkl (h.drewN q') (hg.drewN q'))
              generalize N t[0].toNat i k = x at *
              generalize Pu.beg N v t v.size G m 1 k = bb at *
              generalize tb base v.size (t[0].toNat - 65) = tk at *
              have k1 : (0 : Int) ≤ (k : Int) := by omega
              have k2 : (k : Int) < (v.size : Int) + 1 := by omega
              have k3 : (k : Int) ≤ (v.size : Int) := by omega
              by_cases hx : x = 0
              · subst hx
                have HN : Aside (Pu.anyIn f (v.size + 1 - i) i = Pu.anyIn f (v.size + 1 - (k + 1)) (k + 1)) := by show _ = _; rw [HA.out, hstep.out, hfk.out]; simp
                clear HA hstep hfk HIk
                go_wp2_with fail
                go_roundg (v.size + 2 - (k + 1))
                case measure => omega
                case rel => exact ⟨k + 1, _, by go_num, by omega, by omega, rfl, rfl, HN.out⟩
              · have e1 : (x : Int) > 0 := by omega
                have e2 : (0 : Int) < (x : Int) := by omega
                have e3 : decide ((x : Int) > 0) = true := by simpa using e1
                have hx' : 0 < x := by omega
                cases bb with
                | false =>
                  have HN : Aside (Pu.anyIn f (v.size + 1 - i) i = Pu.anyIn f (v.size + 1 - (k + 1)) (k + 1)) := by show _ = _; rw [HA.out, hstep.out, hfk.out]; simp
                  clear HA hstep hfk
                  go_wp2_with (go_at_call 53; refine (HIk.out _).mono ?_; rintro e w2 ⟨rfl, q2, rfl⟩)
                  go_roundg (v.size + 2 - (k + 1))
                  case measure => omega
                  case rel => exact ⟨k + 1, _, by go_num, by omega, by omega, rfl, rfl, HN.out⟩
                | true =>
                  have HN : Aside (Pu.anyIn f (v.size + 1 - i) i = true) := by show _ = _; rw [HA.out, hstep.out, hfk.out]; simp [hx']
                  clear HA hstep hfk
                  go_wp2_with (go_at_call 53; refine (HIk.out _).mono ?_; rintro e w2 ⟨rfl, q2, rfl⟩)
                  go_ret
                  exact ⟨by rw [hval.out, HN.out]; rfl, _, rfl⟩
            · obtain rfl : k = v.size + 1 := by omega
              have HN : Aside (Pu.anyIn f (v.size + 1 - i) i = false) := by show _ = _; rw [HA.out, Nat.sub_self]; rfl
              have k3 : ¬ ((v.size : Int) + 1 ≤ (v.size : Int)) := by omega
              clear HA
              go_wp2_with fail
              go_ret
              exact ⟨by rw [hval.out, HN.out]; rfl, _, rfl⟩
end Go.Proofs.YthmbbiahnfpoeaaDoor

namespace Go.Proofs.YthmbbiahnfpoeaaDoor
open Go.RowKit

namespace Pu
def totB (G : Nat → Nat → Bool) (n : Nat) : Nat := sumTo (fun k => sumTo (fun i => (G (65 + k) i).toNat) (n + 1)) 26
theorem totB_le {G H : Nat → Nat → Bool} {n : Nat} (h : ∀ c i, G c i = true → H c i = true) : totB G n ≤ totB H n :=
  sumTo_le _ fun k _ => sumTo_le _ fun i _ => by
    have := h (65 + k) i
    cases hg : G (65 + k) i <;> cases hh : H (65 + k) i <;> simp_all
theorem totB_lt {G H : Nat → Nat → Bool} {n k i : Nat} (h : ∀ c i, G c i = true → H c i = true) (hk : k < 26) (hi : i ≤ n) (hg : G (65 + k) i = false) (hh : H (65 + k) i = true) : totB G n < totB H n := by
  have hle : ∀ k i, (G (65 + k) i).toNat ≤ (H (65 + k) i).toNat := fun k i => by
    have := h (65 + k) i
    cases hg : G (65 + k) i <;> cases hh : H (65 + k) i <;> simp_all
  exact sumTo_lt _ (fun k _ => sumTo_le _ fun i _ => hle k i) ⟨k, hk, sumTo_lt _ (fun i _ => hle k i) ⟨i, by omega, by rw [hg, hh]; decide⟩⟩
/-- One sweep of what opens, when it stands at rule r and place i. -/
structure Swp (N : Nat → Nat → Nat → Nat) (v s : ByteArray) (R : List (Nat × Nat)) (n : Nat) (G0 G : Nat → Nat → Bool) (b : Bool) (r i : Nat) : Prop where
  under : Under N v s R n G
  no : b = false → G = G0 ∧ ∀ r' i' (h : r' < R.length), (r' < r ∨ (r' = r ∧ i' < i)) → i' ≤ n → beg N v s n G (R[r'].2 - (R[r'].1 + 2)) (R[r'].1 + 2) i' = true → G (byt s R[r'].1) i' = true
  yes : b = true → totB G0 n < totB G n
  le : ∀ c i, G0 c i = true → G c i = true
section
variable {N : Nat → Nat → Nat → Nat} {v s : ByteArray} {R : List (Nat × Nat)} {n : Nat} {G0 G : Nat → Nat → Bool} {b : Bool} {r i : Nat}
theorem Swp.start (h : Under N v s R n G) : Swp N v s R n G G false 0 0 := ⟨h, fun _ => ⟨rfl, fun _ _ _ h => by omega⟩, fun h => (by cases h), fun _ _ h => h⟩
theorem Swp.skip (h : Swp N v s R n G0 G b r i) (hr : r < R.length) (hs : beg N v s n G (R[r].2 - (R[r].1 + 2)) (R[r].1 + 2) i = true → G (byt s R[r].1) i = true) : Swp N v s R n G0 G b r (i + 1) :=
  ⟨h.under, fun hb => ⟨(h.no hb).1, fun r' i' hl hor hi hbg => by
    by_cases e : r' = r ∧ i' = i
    · obtain ⟨rfl, rfl⟩ := e; exact hs hbg
    · exact (h.no hb).2 r' i' hl (by omega) hi hbg⟩, h.yes, h.le⟩
theorem Swp.set (h : Swp N v s R n G0 G b r i) (hG : Good s R) (hr : r < R.length) (hi : i ≤ n) (hb : beg N v s n G (R[r].2 - (R[r].1 + 2)) (R[r].1 + 2) i = true) (hg : G (byt s R[r].1) i = false) : Swp N v s R n G0 (addG G (byt s R[r].1) i) true r (i + 1) := by
  have hle : ∀ c j, G c j = true → addG G (byt s R[r].1) i c j = true := fun c j h => by unfold addG; split <;> simp_all
  obtain ⟨h65, h90, _, _⟩ := hG R[r] (List.getElem_mem hr)
  refine ⟨h.under.add (List.getElem_mem hr) hb, fun h => (by cases h), fun _ => ?_, fun c j hc => hle c j (h.le c j hc)⟩
  have a := totB_le (n := n) h.le
  have b := totB_lt (k := byt s R[r].1 - 65) (n := n) hle (by omega) hi (by rw [show 65 + (byt s R[r].1 - 65) = byt s R[r].1 by omega]; exact hg) (by rw [show 65 + (byt s R[r].1 - 65) = byt s R[r].1 by omega]; simp [addG])
  omega
theorem Swp.row (h : Swp N v s R n G0 G b r (n + 1)) : Swp N v s R n G0 G b (r + 1) 0 :=
  ⟨h.under, fun hb => ⟨(h.no hb).1, fun r' i' hl hor hi hbg => (h.no hb).2 r' i' hl (by omega) hi hbg⟩, h.yes, h.le⟩
theorem Swp.closed (h : Swp N v s R n G0 G false R.length 0) : Lfp N v s R n G :=
  ⟨fun c i hi ⟨r, hr, e, hb⟩ => by
    obtain ⟨k, hk, rfl⟩ := List.mem_iff_getElem.1 hr
    subst e
    exact (h.no rfl).2 k i hk (by omega) (by omega) hb, h.under⟩
end
end Pu

/-- A chart, its rules, and what opens. -/
structure BegM (w V : World) (cb top base gt g cap : Nat) (v s : ByteArray) (R : List (Nat × Nat)) (N : Nat → Nat → Nat → Nat) (G : Nat → Nat → Bool) : Prop where
  ch : ChartAt V cb top base v.size (.slice (some ⟨g, 0, none⟩) R.length cap) v N
  gd : Grid V gt (gt + 1) 26 (v.size + 1) (fun k i => G (65 + k) i)
  ra : RulesAt V g s R
  bel : Below w.heap.size w V
  far : cb < gt ∧ top < gt ∧ base + 26 * (v.size + 2) ≤ gt ∧ g < gt ∧ w.heap.size ≤ gt ∧ g < V.heap.size
section
variable {w V V' : World} {cb top base gt g cap : Nat} {v s : ByteArray} {R : List (Nat × Nat)} {N : Nat → Nat → Nat → Nat} {G : Nat → Nat → Bool}
theorem BegM.below (h : BegM w V cb top base gt g cap v s R N G) (hb : Below V.heap.size V V') : BegM w V' cb top base gt g cap v s R N G := by
  have f := h.far
  have := hb.size
  exact ⟨h.ch.below hb, h.gd.below hb, h.ra.below hb f.2.2.2.2.2, h.bel.trans (hb.mono h.bel.size), by omega⟩
theorem BegM.drewN (h : BegM w V cb top base gt g cap v s R N G) (m : Nat) : BegM w (V.drewN m) cb top base gt g cap v s R N G := h.below (Go.below_drewN (Below.refl _ _) m)
theorem BegM.set (h : BegM w V cb top base gt g cap v s R N G) {c i : Nat} (h1 : 65 ≤ c) (h2 : c ≤ 90) : BegM w (V.setCell ⟨gt + 1 + (c - 65), i, none⟩ (.bool true)) cb top base gt g cap v s R N (Pu.addG G c i) := by
  have f := h.far
  have ho : ∀ b, b ≤ gt → (V.setCell ⟨gt + 1 + (c - 65), i, none⟩ (.bool true)).heap[b]? = V.heap[b]? := fun b hb => Below.heap_setCell _ _ _ _ (by show b ≠ gt + 1 + (c - 65); omega)
  refine ⟨⟨by rw [ho _ (by omega)]; exact h.ch.blk, h.ch.cube.kept fun b hb => ho b (by omega)⟩, ?_, h.ra.grown (grown_set V (gt + 1 + (c - 65)) i _) (by simp; omega), h.bel.setCell (by show w.heap.size ≤ gt + 1 + (c - 65); omega) _, by simpa using f⟩
  refine (h.gd.set (k := c - 65) (i := i) (by omega)).congr fun k i' hk _ => ?_
  unfold Pu.addG
  by_cases e : k = c - 65
  · subst e
    simp only [show 65 + (c - 65) = c by omega, true_and]
  · rw [if_neg (fun h => e h.1), if_neg (fun h => e (by omega))]
end

set_option maxRecDepth 100000 in
set_option maxHeartbeats 2000000 in
theorem Begins_any (s v : ByteArray) (R : List (Nat × Nat)) (g cap m : Nat) (w : World) (hRA : RulesAt w g s R) (hg : g < w.heap.size) (hG : Pu.Good s R) (hS : Pu.Signed s R) (hn : R.length ≤ 8) (hR : 0 < R.length) (hv : v.size ≤ 24) (hm : Pu.Cnt v s R v.size (Pu.lvl v s R m)) :
    Calls Tryd.prog 33 #[.slice (some ⟨g, 0, none⟩) R.length cap, .string v] w fun e w' => Below w.heap.size w w' ∧ ∃ b, e = .returned (.bool b) ∧ Pu.Bg (Pu.lvl v s R m) v s R (Pu.byt s (R[0]'hR).1) v.size b := by
  have HCO := hide (Count_any s v R g cap w hRA hg hG hS hn hv)
  have HRA := hide hRA
  have HG := hide hG
  have HS := hide hS
  have HM := hide hm
  clear hRA hG hS hm
  have m108 := make108 26 (by omega)
  have m108' : ∀ w, (Instr.makeSlice 108 (.int .i64 26) (.int .i64 26)).run Tryd.prog w = .ok (.slice (some ⟨w.heap.size, 0, none⟩) 26 26) (w.alloc (.cells (zNil 26) 56)) := m108
  have m56 : ∀ w, (Instr.makeSlice 56 (.int .i64 ((v.size : Int) + 1)) (.int .i64 ((v.size : Int) + 1))).run Tryd.prog w = .ok (.slice (some ⟨w.heap.size, 0, none⟩) (v.size + 1) (v.size + 1)) (w.alloc (.cells (zBools (v.size + 1)) 4)) := fun w => by
    have := make56 (v.size + 1) (by omega) w
    rwa [show ((v.size + 1 : Nat) : Int) = (v.size : Int) + 1 by omega] at this
  clear m108
  go_enter Tryd.func33, Tryd.ntmps33
  go_wp2_with (go_at_call 29; refine HCO.out.mono ?_; rintro e w1 ⟨rfl, hb1, m', top, base, hch, hcn⟩)
  have hch2 := chart_of_cnt hch hcn HM.out
  have HRA1 : Hid (RulesAt w1 g s R) := HRA.out.below hb1 hg
  have hg1 : g < w1.heap.size := Nat.lt_of_lt_of_le hg hb1.size
  have hH0 : HalfG w1 (w1.alloc (.cells (zNil 26) 56)) w1.heap.size (w1.heap.size + 1) 26 (v.size + 1) 0 := HalfG.start _ ((Below.refl _ _).alloc (Nat.le_refl _) _) (heap_alloc_new w1 _) (Nat.le_refl _) (by omega) (by simp)
  clear hch hcn HCO m108'
  go_loopg [7] 27 (fun n kv V => ∃ k : Nat, kv = .int .i64 k ∧ k ≤ 26 ∧ n = 27 - k ∧ HalfG w1 V w1.heap.size (w1.heap.size + 1) 26 (v.size + 1) k)
  case atStart => exact ⟨0, rfl, Nat.zero_le _, rfl, hH0⟩
  case round =>
    clear hH0
    obtain ⟨k, rfl, hk, rfl, hH⟩ := hrel
    by_cases hkl : k < 26
    · have hT := hH.addRow hkl
      obtain ⟨cs, ht, hz, hc⟩ := hH.top
      have htl := lt_heap ht
      have hct : ∃ x, wr.cell? ⟨w1.heap.size, k, none⟩ = some x := by
        simp only [World.cell?, ht]
        exact ⟨cs[k], by simp⟩
      obtain ⟨x0, hx0⟩ := hct
      have hf0 : wr.frozen? ⟨w1.heap.size, k, none⟩ = false := by simp [World.frozen?, ht]
      have n1 : ¬ wr.heap.size = w1.heap.size := by omega
      have n2 : ¬ w1.heap.size = wr.heap.size := by omega
      have b1 : (0 : Int) ≤ (k : Int) := by omega
      have b2 : (k : Int) < 26 := by omega
      clear hH ht hz hc
      go_wp2_with fail
      go_roundg (27 - (k + 1))
      case measure => omega
      case rel => exact ⟨k + 1, by go_num, by omega, rfl, hT⟩
    · obtain rfl : k = 26 := by omega
      have hM0 : BegM w wr w.heap.size top base w1.heap.size g cap v s R (Pu.lvl v s R m) (fun _ _ => false) := by
        have hl := hch2.lts
        exact ⟨hch2.below hH.bel, hH.done, HRA1.out.below hH.bel hg1, hb1.trans (hH.bel.mono hb1.size), hl.1, hl.2.1, hl.2.2, hg1, hb1.size, Nat.lt_of_lt_of_le hg1 hH.bel.size⟩
      clear hH m56
      go_wp2_with fail
      have HUS : Hid (Pu.Under (Pu.lvl v s R m) v s R v.size (fun _ _ => false)) := Pu.Under.start
      have HNC : Hid (∀ (G : Nat → Nat → Bool) (V : World) (r i : Nat) (hr : r < R.length), i ≤ v.size → BegM w V w.heap.size top base w1.heap.size g cap v s R (Pu.lvl v s R m) G → Calls Tryd.prog 53 #[.pointer (some ⟨w.heap.size, 0, none⟩), .string (sub s (R[r].1 + 2) R[r].2), .int .i64 i, .slice (some ⟨w1.heap.size, 0, none⟩) 26 26] V fun e w' => e = .returned (.bool (Pu.beg (Pu.lvl v s R m) v s v.size G (R[r].2 - (R[r].1 + 2)) (R[r].1 + 2) i)) ∧ ∃ q, w' = V.drewN q) := by
        intro G V r i hr hi hM
        obtain ⟨h65, h90, hr1, hr2⟩ := HG.out R[r] (List.getElem_mem hr)
        obtain ⟨hr5, hsg⟩ := HS.out R[r] (List.getElem_mem hr)
        have hsz := size_sub (s := s) (a := R[r].1 + 2) hr2
        have := begins_any w.heap.size top base w1.heap.size (w1.heap.size + 1) (.slice (some ⟨g, 0, none⟩) R.length cap) v (Pu.lvl v s R m) G hv (R[r].2 - (R[r].1 + 2)) (sub s (R[r].1 + 2) R[r].2) i V hsz (by omega) (fun a ha => by rw [hsz] at ha; rw [byt_sub hr2 ha]; exact hsg _ (by omega) (by omega)) hi hM.ch hM.gd
        rw [beg_sub hr2 _ _ _ (by omega)] at this
        exact this
      clear hch2 HRA1 hb1 HRA HM
      generalize w1.heap.size = gt at *
      obtain ⟨N, hN⟩ : ∃ N, N = Pu.lvl v s R m := ⟨_, rfl⟩
      rw [← hN] at hM0 HUS HNC
      have HPN := aside_of hN
      clear hN
      obtain ⟨TT, hTT⟩ : ∃ TT, TT = Pu.totB (fun _ _ => true) v.size := ⟨_, rfl⟩
      have HTT : Hid (∀ G : Nat → Nat → Bool, Pu.totB G v.size ≤ TT) := fun G => by rw [hTT]; exact Pu.totB_le (fun _ _ _ => rfl)
      clear hTT
      go_loopg [8] (2 * (TT - Pu.totB (fun _ _ => false) v.size) + 1) (fun q av V => ∃ (G : Nat → Nat → Bool) (b : Bool), av = .bool b ∧ q = 2 * (TT - Pu.totB G v.size) + b.toNat ∧ BegM w V w.heap.size top base gt g cap v s R N G ∧ Pu.Under N v s R v.size G ∧ (b = false → Pu.Lfp N v s R v.size G))
      case atStart => exact ⟨fun _ _ => false, true, rfl, rfl, hM0, HUS.out, fun h => by cases h⟩
      case round =>
        clear hM0 HUS
        obtain ⟨G, b, rfl, rfl, hM, hU, hfix⟩ := hrel
        cases b with
        | false =>
          have HL := aside_of (hfix rfl)
          obtain ⟨f0, _, _⟩ := hM.ra 0 hR
          obtain ⟨h65, h90, _, _⟩ := HG.out (R[0]'hR) (List.getElem_mem hR)
          have hk0 : Pu.byt s (R[0]'hR).1 - 65 < 26 := by omega
          have g1 := hM.gd.c1 hk0
          have g2 := hM.gd.c2 hk0 (show 0 < v.size + 1 by omega)
          simp only [show 65 + (Pu.byt s (R[0]'hR).1 - 65) = Pu.byt s (R[0]'hR).1 by omega] at g2
          have g1' : wr.cell? ⟨gt, ((Pu.byt s (R[0]'hR).1 : Int) - 65).toNat, none⟩ = some (.slice (some ⟨gt + 1 + (Pu.byt s (R[0]'hR).1 - 65), 0, none⟩) (v.size + 1) (v.size + 1)) := by rw [show ((Pu.byt s (R[0]'hR).1 : Int) - 65).toNat = Pu.byt s (R[0]'hR).1 - 65 by omega]; exact g1
          have hbl := hM.bel
          have b0 : (0 : Int) < (R.length : Int) := by omega
          clear hM hU hfix HNC HG HS
          generalize hcc : Pu.byt s (R[0]'hR).1 = c at *
          generalize hgg : gt + 1 + (c - 65) = gr at *
          generalize hbb : G c 0 = bb at *
          have e65 : (65 : Int) ≤ (c : Int) := by omega
          have e90 : (c : Int) ≤ 90 := by omega
          have b6 : (0 : Int) ≤ (c : Int) - 65 := by omega
          have b7 : (c : Int) - 65 < 26 := by omega
          have b8 : (0 : Int) < (v.size : Int) + 1 := by omega
          go_wp2_with fail
          go_ret
          exact ⟨hbl, bb, rfl, G, by rw [← HPN.out]; exact HL.out, by rw [hcc]; exact hbb.symm⟩
        | true =>
          clear hfix
          have hS0 := Pu.Swp.start hU
          clear hU
          go_wp2_with fail
          go_loopg [8, 9] (R.length + 1) (fun q av rv V => ∃ (G' : Nat → Nat → Bool) (b : Bool) (r : Nat), av = .bool b ∧ rv = .int .i64 r ∧ r ≤ R.length ∧ q = R.length + 1 - r ∧ BegM w V w.heap.size top base gt g cap v s R N G' ∧ Pu.Swp N v s R v.size G G' b r 0)
          case atStart => exact ⟨G, false, 0, rfl, rfl, Nat.zero_le _, rfl, hM, hS0⟩
          case round =>
            clear hM hS0
            obtain ⟨G', b, r, rfl, rfl, hr, rfl, hM, hSw⟩ := hrel
            by_cases hrl : r < R.length
            · have b1 : (0 : Int) ≤ (r : Int) := by omega
              have b2 : (r : Int) < (R.length : Int) := by omega
              obtain ⟨f0, _, _⟩ := hM.ra r hrl
              obtain ⟨h65, h90, _, _⟩ := HG.out R[r] (List.getElem_mem hrl)
              have HSET := hide (fun (G' : Nat → Nat → Bool) (b : Bool) (i : Nat) (h : Pu.Swp N v s R v.size G G' b r i) hi hb hg => h.set HG.out hrl hi hb hg)
              have HSKP := hide (fun (G' : Nat → Nat → Bool) (b : Bool) (i : Nat) (h : Pu.Swp N v s R v.size G G' b r i) hs => h.skip hrl hs)
              have HNR := hide (fun G V i => HNC.out G V r i hrl)
              have HBM := hide (fun (V : World) (G' : Nat → Nat → Bool) (h : BegM w V w.heap.size top base gt g cap v s R N G') => (h.ra r hrl).2.1)
              generalize Pu.byt s R[r].1 = c at *
              have e65 : (65 : Int) ≤ (c : Int) := by omega
              have e90 : (c : Int) ≤ 90 := by omega
              go_wp2_with fail
              clear f0
              go_loopg [8, 11] (v.size + 2) (fun q av iv V => ∃ (G' : Nat → Nat → Bool) (b : Bool) (i : Nat), av = .bool b ∧ iv = .int .i64 i ∧ i ≤ v.size + 1 ∧ q = v.size + 2 - i ∧ BegM w V w.heap.size top base gt g cap v s R N G' ∧ Pu.Swp N v s R v.size G G' b r i)
              case atStart => exact ⟨G', b, 0, rfl, rfl, Nat.zero_le _, rfl, hM, hSw⟩
              case round =>
                clear hM hSw
                obtain ⟨G', b, i, rfl, rfl, hi, rfl, hM, hSw⟩ := hrel
                by_cases hil : i ≤ v.size
                · have f1 := HBM.out _ _ hM
                  have hk0 : c - 65 < 26 := by omega
                  have g1 := hM.gd.c1 hk0
                  have g2 := hM.gd.c2 hk0 (show i < v.size + 1 by omega)
                  have g3 := hM.gd.frozen hk0 i
                  simp only [show 65 + (c - 65) = c by omega] at g2
                  have g1' : wr.cell? ⟨gt, ((c : Int) - 65).toNat, none⟩ = some (.slice (some ⟨gt + 1 + (c - 65), 0, none⟩) (v.size + 1) (v.size + 1)) := by rw [show ((c : Int) - 65).toNat = c - 65 by omega]; exact g1
                  have HCL := hide (HNR.out G' _ i hil hM)
                  have hbs := HSKP.out G' b i hSw
                  have hst := HSET.out G' b i hSw hil
                  have HMM := hide (fun d => hM.drewN d)
                  have HMS := hide (fun d => (hM.drewN d).set (i := i) h65 h90)
                  clear hM hSw
                  generalize sub s (R[r].1 + 2) R[r].2 = t at *
                  generalize Pu.beg N v s v.size G' (R[r].2 - (R[r].1 + 2)) (R[r].1 + 2) i = bb at *
                  generalize hgo : G' c i = go at *
                  have hge : ¬ gt = gt + 1 + (c - 65) := by omega
                  have hge' : ¬ gt + 1 + (c - 65) = gt := by omega
                  generalize gt + 1 + (c - 65) = gr at *
                  have b4 : (0 : Int) ≤ (i : Int) := by omega
                  have b5 : (i : Int) < (v.size : Int) + 1 := by omega
                  have b3 : (i : Int) ≤ (v.size : Int) := by omega
                  have b6 : (0 : Int) ≤ (c : Int) - 65 := by omega
                  have b7 : (c : Int) - 65 < 26 := by omega
                  cases bb with
                  | false =>
                    have hX := hbs (fun h => by cases h)
                    clear hbs hst
                    go_wp2_with (go_at_call 53; refine HCL.out.mono ?_; rintro e w2 ⟨rfl, q2, rfl⟩)
                    go_roundg (v.size + 2 - (i + 1))
                    case measure => omega
                    case rel => exact ⟨G', b, i + 1, rfl, by go_num, by omega, rfl, HMM.out _, hX⟩
                  | true =>
                    cases go with
                    | true =>
                      have hX := hbs (fun _ => rfl)
                      clear hbs hst
                      go_wp2_with (go_at_call 53; refine HCL.out.mono ?_; rintro e w2 ⟨rfl, q2, rfl⟩)
                      go_roundg (v.size + 2 - (i + 1))
                      case measure => omega
                      case rel => exact ⟨G', b, i + 1, rfl, by go_num, by omega, rfl, HMM.out _, hX⟩
                    | false =>
                      have hX := hst rfl rfl
                      clear hbs hst
                      go_wp2_with (go_at_call 53; refine HCL.out.mono ?_; rintro e w2 ⟨rfl, q2, rfl⟩)
                      go_roundg (v.size + 2 - (i + 1))
                      case measure => omega
                      case rel => exact ⟨Pu.addG G' c i, true, i + 1, rfl, by go_num, by omega, rfl, HMS.out _, hX⟩
                · obtain rfl : i = v.size + 1 := by omega
                  have hX := hSw.row
                  have b3 : ¬ ((v.size : Int) + 1 ≤ (v.size : Int)) := by omega
                  clear hSw
                  go_wp2_with fail
                  go_roundg (R.length + 1 - (r + 1))
                  case measure => omega
                  case rel => exact ⟨G', b, r + 1, rfl, by go_num, by omega, rfl, hM, hX⟩
            · obtain rfl : r = R.length := by omega
              have hlt : 2 * (TT - Pu.totB G' v.size) + b.toNat < 2 * (TT - Pu.totB G v.size) + 1 := by
                have h1 := HTT.out G'
                have h2 := Pu.totB_le (n := v.size) hSw.le
                cases b with
                | false => simp; omega
                | true => have := hSw.yes rfl; simp; omega
              have hcl : b = false → Pu.Lfp N v s R v.size G' := fun e => by subst e; exact hSw.closed
              have HCL := aside_of hcl
              have HUN := aside_of hSw.under
              clear hSw hcl
              go_wp2_with fail
              go_roundg (2 * (TT - Pu.totB G' v.size) + b.toNat)
              case measure => simpa using hlt
              case rel => exact ⟨G', b, rfl, rfl, hM, HUN.out, HCL.out⟩
end Go.Proofs.YthmbbiahnfpoeaaDoor

namespace Go.Proofs.YthmbbiahnfpoeaaDoor
open Go.RowKit

namespace Pu
/-- The longest beginning (P5), the counts being those of height m. -/
def Prf (s v : ByteArray) (m n e p : Nat) : Prop :=
  ∃ a b, Chk s a b ∧
    if a = 0 then ∃ c d, Wrd v c d ∧
      if c = 0 then Pfx (lvl v s (rulesOf s) m) v s (rulesOf s) (byt s 0) v.size n ∧ e = 0 ∧ p = 0
      else n = 0 ∧ e = c ∧ p = d
    else n = 0 ∧ e = a ∧ p = b
theorem Prf.unique {s v : ByteArray} {m n n' e e' p p' : Nat} (h : Prf s v m n e p) (k : Prf s v m n' e' p') : n = n' ∧ e = e' ∧ p = p' := by
  obtain ⟨a, b, h1, h2⟩ := h
  obtain ⟨a', b', k1, k2⟩ := k
  obtain ⟨rfl, rfl⟩ := h1.unique k1
  split at h2
  · rename_i ha
    rw [if_pos ha] at k2
    obtain ⟨c, d, g1, g2⟩ := h2
    obtain ⟨c', d', j1, j2⟩ := k2
    obtain ⟨rfl, rfl⟩ := g1.unique j1
    split at g2
    · rename_i hc
      rw [if_pos hc] at j2
      obtain ⟨g3, rfl, rfl⟩ := g2
      obtain ⟨j3, rfl, rfl⟩ := j2
      exact ⟨Pfx.unique _ _ _ g3 j3, rfl, rfl⟩
    · rename_i hc
      rw [if_neg hc] at j2
      omega
  · rename_i ha
    rw [if_neg ha] at k2
    omega
theorem Bg.cut {u v s : ByteArray} {R : List (Nat × Nat)} {m c n : Nat} {b : Bool} (h : Bg (lvl u s R m) u s R c n b) (hv : ∀ x, x < n → byt u x = byt v x) : Bg (lvl v s R m) v s R c n b := by
  obtain ⟨G, h1, h2⟩ := h
  exact ⟨G, h1.cut hv (fun c i j h1 h2 => lvl_cut hv m c i j h1 h2), h2⟩
end Pu
theorem byt_head {v : ByteArray} {n x : Nat} (hn : n ≤ v.size) (hx : x < n) : Pu.byt (v.extract 0 n) x = Pu.byt v x := by
  have := byt_sub (s := v) (a := 0) (b := n) (k := x) hn (by omega)
  rw [Nat.zero_add] at this
  exact this
theorem size_head {v : ByteArray} {n : Nat} (hn : n ≤ v.size) : (v.extract 0 n).size = n := by simp [ByteArray.size_extract]; omega

set_option maxRecDepth 100000 in
set_option maxHeartbeats 2000000 in
theorem rPrefix_any (s v : ByteArray) (m : Nat) (w : World) (hs : s.size ≤ maxLen) (hv : v.size ≤ maxLen) (hm : Pu.Cnt v s (Pu.rulesOf s) v.size (Pu.lvl v s (Pu.rulesOf s) m)) :
    Calls Tryd.prog 19 #[.string s, .string v] w fun e w' => (∃ (n a p : Nat), e = .returned (.tuple #[.int .i64 n, .int .i64 a, .int .i64 p]) ∧ Pu.Prf s v m n a p) ∧ Below w.heap.size w w' := by
  have HC := hide (fun w => rcheck_all s w hs)
  have HW := hide (fun w => word_any v w hv)
  go_enter Tryd.func19, Tryd.ntmps19
  go_wp2_with fail
  refine (HC.out _).mono ?_
  rintro e w1 ⟨⟨a, p, rfl, hC⟩, hb1⟩
  by_cases ha : a = 0
  · subst ha
    have HCK := aside_of hC
    clear hC
    go_wp2_with fail
    refine (HW.out _).mono ?_
    rintro e w2 ⟨rfl, c, d, rfl, hWd⟩
    by_cases hc : c = 0
    · subst hc
      obtain ⟨hv24, rfl, _⟩ := wrd_ok hWd
      obtain ⟨hs50, rfl, hpo⟩ := chk_ok HCK.out
      have hgd := Pu.parse_good s 8 0
      have hsd := Pu.parse_signed s 8 0
      have hhd := Pu.parse_head s 8 0
      have HT : Hid (∀ n, Pu.Pfx (Pu.lvl v s (Pu.rulesOf s) m) v s (Pu.rulesOf s) (Pu.byt s 0) v.size n → Pu.Prf s v m n 0 0) := fun n h1 =>
        ⟨0, 0, HCK.out, by rw [if_pos rfl]; exact ⟨0, 0, hWd, by rw [if_pos rfl]; exact ⟨h1, rfl, rfl⟩⟩⟩
      have HR : Hid (∀ w, Calls Tryd.prog 17 #[.string s] w fun e w' => Below w.heap.size w w' ∧ ∃ g cap, e = .returned (.tuple #[.slice (some ⟨g, 0, none⟩) (Pu.rulesOf s).length cap, .int .i64 ↑(Pu.parse s 8 0).2.1, .bool true]) ∧ g < w'.heap.size ∧ RulesAt w' g s (Pu.rulesOf s)) := fun w => (Read_any s w hs50).mono (by
        rintro e w' ⟨hb, ⟨h, he⟩ | ⟨_, v, he, hown⟩⟩
        · rw [hpo] at h; cases h
        · refine ⟨hb, ?_⟩
          have hown' := hown
          rcases hown.2 with ⟨_, h0⟩ | ⟨g, cap, _, rfl, hbg, _⟩
          · exact absurd (List.eq_nil_of_length_eq_zero h0) (hgd.2.2 hpo)
          · exact ⟨g, cap, he, (hown'.lt g rfl).2, rulesAt_of hown'⟩)
      have hne : 0 < (Pu.rulesOf s).length := List.length_pos_iff.2 (hgd.2.2 hpo)
      have hfst := hhd hne
      obtain ⟨hG, hn8, _⟩ := hgd
      have HG : Hid (Pu.Good s (Pu.rulesOf s)) := hG
      have HS : Hid (Pu.Signed s (Pu.rulesOf s)) := hsd
      have HM := hide hm
      rw [show (Pu.parse s 8 0).1 = Pu.rulesOf s from rfl] at hn8
      have HF : Hid ((Pu.rulesOf s)[0].1 = 0) := hfst
      clear hfst hhd hG hsd hm hWd hpo HC HW
      generalize Pu.rulesOf s = R at *
      go_wp2_with fail
      refine (HR.out _).mono ?_
      rintro e w3 ⟨hb3, g, cap, rfl, hg, hRA⟩
      have hb13 : Below w.heap.size w w3 := hb1.trans (hb3.mono hb1.size)
      have HBG : Hid (∀ V k, Below w3.heap.size w3 V → k ≤ v.size → Calls Tryd.prog 33 #[.slice (some ⟨g, 0, none⟩) R.length cap, .string (v.extract 0 k)] V fun e w' => Below V.heap.size V w' ∧ ∃ b, e = .returned (.bool b) ∧ Pu.Bg (Pu.lvl v s R m) v s R (Pu.byt s 0) k b) := by
        intro V k hb hk
        have hsz := size_head hk
        have hbt := fun x (hx : x < k) => byt_head (v := v) hk hx
        have := Begins_any s (v.extract 0 k) R g cap m V (hRA.below hb hg) (Nat.lt_of_lt_of_le hg hb.size) HG.out HS.out hn8 hne (by omega) (by rw [hsz]; exact HM.out.cut hk hbt)
        refine this.mono ?_
        rintro e w' ⟨h1, b, rfl, h2⟩
        rw [HF.out, hsz] at h2
        exact ⟨h1, b, rfl, h2.cut hbt⟩
      have b24 : (v.size : Int) ≤ 24 := by omega
      clear HR hRA hb3 HM HG HS HF
      go_wp2_with fail
      go_loopg [14] (v.size + 1) (fun q nv V => ∃ k : Nat, nv = .int .i64 k ∧ k ≤ v.size ∧ q = k + 1 ∧ Below w3.heap.size w3 V ∧ ∀ p, Pu.Pfx (Pu.lvl v s R m) v s R (Pu.byt s 0) k p → Pu.Pfx (Pu.lvl v s R m) v s R (Pu.byt s 0) v.size p)
      case atStart => exact ⟨v.size, rfl, Nat.le_refl _, rfl, Below.refl _ _, fun _ h => h⟩
      case round =>
        obtain ⟨k, rfl, hk, rfl, hbV, hpf⟩ := hrel
        have HPF := aside_of hpf
        clear hpf
        have hbw := hb13.trans (hbV.mono hb13.size)
        cases k with
        | zero =>
          have HX := aside_of (HT.out 0 (HPF.out 0 rfl))
          clear HPF HBG
          go_wp2_with fail
          go_ret3
          exact ⟨⟨0, 0, 0, rfl, HX.out⟩, hbw⟩
        | succ k =>
          have HC := hide (HBG.out _ (k + 1) hbV hk)
          have k1 : (((k + 1 : Nat)) : Int) > 0 := by omega
          have k2 : (0 : Int) ≤ ((k + 1 : Nat) : Int) := by omega
          have k3 : ((k + 1 : Nat) : Int) ≤ (v.size : Int) := by omega
          generalize hkk : k + 1 = kk at *
          clear HBG
          go_wp2_with fail
          refine HC.out.mono ?_
          rintro e w4 ⟨hb4, b, rfl, hBg⟩
          have hb34 := hbV.trans (hb4.mono hbV.size)
          have hbw4 := hbw.trans (hb4.mono hbw.size)
          cases b with
          | true =>
            have HX := aside_of (HT.out kk (HPF.out kk (by rw [← hkk] at hBg ⊢; exact .inl ⟨hBg, rfl⟩)))
            clear HPF hBg HC
            go_wp2_with fail
            go_ret3
            exact ⟨⟨kk, 0, 0, rfl, HX.out⟩, hbw4⟩
          | false =>
            have HX : Aside (∀ p, Pu.Pfx (Pu.lvl v s R m) v s R (Pu.byt s 0) k p → Pu.Pfx (Pu.lvl v s R m) v s R (Pu.byt s 0) v.size p) := fun p hp => HPF.out p (by rw [← hkk] at hBg ⊢; exact .inr ⟨hBg, hp⟩)
            clear HPF hBg HC
            subst hkk
            go_wp2_with fail
            go_roundg (k + 1)
            case measure => omega
            case rel => exact ⟨k, by go_num, by omega, rfl, hb34, HX.out⟩
    · have HT : Hid (Pu.Prf s v m 0 c d) := ⟨0, p, HCK.out, by rw [if_pos rfl]; exact ⟨c, d, hWd, by rw [if_neg hc]; exact ⟨rfl, rfl, rfl⟩⟩⟩
      have e1 : ((c : Int) != 0) = true := by simp; omega
      clear hWd hc
      go_wp2_with fail
      go_ret3
      exact ⟨⟨0, c, d, rfl, HT.out⟩, hb1⟩
  · have HT : Hid (Pu.Prf s v m 0 a p) := ⟨a, p, hC, by rw [if_neg ha]; exact ⟨rfl, rfl, rfl⟩⟩
    have e1 : ((a : Int) != 0) = true := by simp; omega
    clear hC ha
    go_wp2_with fail
    go_ret3
    exact ⟨⟨0, a, p, rfl, HT.out⟩, hb1⟩
end Go.Proofs.YthmbbiahnfpoeaaDoor
