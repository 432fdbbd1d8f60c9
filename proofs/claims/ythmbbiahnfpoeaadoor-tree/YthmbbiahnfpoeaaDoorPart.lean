import Derived.Test.YthmbbiahnfpoeaaDoorPureC
namespace Go.Proofs.YthmbbiahnfpoeaaDoor
namespace Pu

theorem signs_sg (s : ByteArray) : ∀ k j a, j ≤ a → a < signs s k j → sg (byt s a) = true
  | 0, j, a, h1, h2 => by simp only [signs] at h2; omega
  | k + 1, j, a, h1, h2 => by
    simp only [signs] at h2
    split at h2
    · rename_i h
      by_cases e : a = j
      · subst e; exact h.2
      · exact signs_sg s k (j + 1) a (by omega) h2
    · omega
/-- Right sides as they are read: three signs at most, each a name or a letter. -/
def Signed (s : ByteArray) (R : List (Nat × Nat)) : Prop := ∀ r ∈ R, r.2 ≤ r.1 + 5 ∧ ∀ a, r.1 + 2 ≤ a → a < r.2 → sg (byt s a) = true
theorem ruleAt_signed {s : ByteArray} {i : Nat} (h : (ruleAt s i).2 = true) : (ruleAt s i).1 ≤ i + 5 ∧ ∀ a, i + 2 ≤ a → a < (ruleAt s i).1 → sg (byt s a) = true := by
  unfold ruleAt at h ⊢
  split
  · rename_i h1
    rw [if_pos h1] at h
    split
    · have := signs_le s 3 (i + 2)
      exact ⟨by show signs s 3 (i + 2) ≤ i + 5; omega, fun a h1 h2 => signs_sg s 3 (i + 2) a h1 h2⟩
    · rename_i h2
      rw [if_neg h2] at h; exact absurd h (by simp)
  · rename_i h1
    rw [if_neg h1] at h; exact absurd h (by simp)
theorem parse_signed (s : ByteArray) : ∀ k i, Signed s (parse s k i).1
  | 0, _ => fun _ h => (List.not_mem_nil h).elim
  | k + 1, i => by
    have ih := parse_signed s k ((ruleAt s i).1 + 1)
    simp only [parse]
    split
    · rename_i h1
      have hg := ruleAt_signed h1
      split
      · intro r hr; simp at hr; subst hr; exact hg
      · split
        · intro r hr
          rcases List.mem_cons.1 hr with rfl | hr
          · exact hg
          · exact ih r hr
        · exact fun _ h => (List.not_mem_nil h).elim
    · exact fun _ h => (List.not_mem_nil h).elim

theorem phiL_append (N : Nat → Nat → Nat → Nat) (v s : ByteArray) (c i j : Nat) : ∀ l r n, phiL N v s c i j (l ++ r) n = phiL N v s c i j r (phiL N v s c i j l n)
  | [], _, _ => rfl
  | x :: l, r, n => by simp only [List.cons_append, phiL]; exact phiL_append N v s c i j l r _
theorem phiL_take {N : Nat → Nat → Nat → Nat} {v s : ByteArray} {c i j : Nat} {R : List (Nat × Nat)} {r : Nat} (h : r < R.length) :
    phiL N v s c i j (R.take (r + 1)) 0 = if byt s R[r].1 = c then min 2 (phiL N v s c i j (R.take r) 0 + ways N v s (R[r].2 - (R[r].1 + 2)) (R[r].1 + 2) i j) else phiL N v s c i j (R.take r) 0 := by
  rw [List.take_succ_eq_append_getElem h, phiL_append]; rfl
/-- The next counts, when r rules are gone through, and of the next one the pieces ahead of (i, j). -/
def part (N : Nat → Nat → Nat → Nat) (v s : ByteArray) (R : List (Nat × Nat)) (r i j : Nat) (c i' j' : Nat) : Nat :=
  if i' ≤ j' then phiL N v s c i' j' (R.take (if i' < i ∨ (i' = i ∧ j' < j) then r + 1 else r)) 0 else 0
theorem part_zero (N : Nat → Nat → Nat → Nat) (v s : ByteArray) (R : List (Nat × Nat)) (c i' j' : Nat) : part N v s R 0 0 0 c i' j' = 0 := by
  unfold part; split
  · rw [if_neg (by omega)]; rfl
  · rfl
theorem part_row {N : Nat → Nat → Nat → Nat} {v s : ByteArray} {R : List (Nat × Nat)} {r i n : Nat} (c i' j' : Nat) (hj : j' ≤ n) : part N v s R r i (n + 1) c i' j' = part N v s R r (i + 1) (i + 1) c i' j' := by
  unfold part; split
  · by_cases h : i' ≤ i
    · rw [if_pos (by omega), if_pos (by omega)]
    · rw [if_neg (by omega), if_neg (by omega)]
  · rfl
theorem part_rule {N : Nat → Nat → Nat → Nat} {v s : ByteArray} {R : List (Nat × Nat)} {r n : Nat} (c i' j' : Nat) (hi : i' ≤ n) : part N v s R r (n + 1) (n + 1) c i' j' = part N v s R (r + 1) 0 0 c i' j' := by
  unfold part; split
  · rw [if_pos (by omega), if_neg (by omega)]
  · rfl
theorem part_zero_row {N : Nat → Nat → Nat → Nat} {v s : ByteArray} {R : List (Nat × Nat)} {r : Nat} (c i' j' : Nat) : part N v s R r 0 0 c i' j' = part N v s R r 0 0 c i' j' := rfl
theorem part_done {N : Nat → Nat → Nat → Nat} {v s : ByteArray} {R : List (Nat × Nat)} (c i' j' : Nat) (h : i' ≤ j') : part N v s R R.length 0 0 c i' j' = phi v s R N c i' j' := by
  unfold part
  rw [if_pos h, if_neg (by omega), List.take_length]; rfl
theorem part_step {N : Nat → Nat → Nat → Nat} {v s : ByteArray} {R : List (Nat × Nat)} {r i j : Nat} (hr : r < R.length) (hij : i ≤ j) (c i' j' : Nat) :
    part N v s R r i (j + 1) c i' j' = if c = byt s R[r].1 ∧ i' = i ∧ j' = j then min 2 (part N v s R r i j (byt s R[r].1) i j + ways N v s (R[r].2 - (R[r].1 + 2)) (R[r].1 + 2) i j) else part N v s R r i j c i' j' := by
  by_cases h : i' = i ∧ j' = j
  · obtain ⟨rfl, rfl⟩ := h
    have p1 : ∀ c, part N v s R r i' (j' + 1) c i' j' = phiL N v s c i' j' (R.take (r + 1)) 0 := fun c => by
      unfold part
      rw [if_pos hij, if_pos (Or.inr ⟨rfl, Nat.lt_succ_self _⟩)]
    have p0 : ∀ c, part N v s R r i' j' c i' j' = phiL N v s c i' j' (R.take r) 0 := fun c => by
      unfold part
      rw [if_pos hij, if_neg (by omega)]
    rw [p1, p0, p0, phiL_take hr]
    by_cases e : c = byt s R[r].1
    · subst e; simp
    · rw [if_neg (fun h => e h.symm), if_neg (fun h => e h.1)]
  · rw [if_neg (fun hh => h hh.2)]
    unfold part
    split
    · by_cases hb : i' < i ∨ (i' = i ∧ j' < j)
      · rw [if_pos hb, if_pos (by omega)]
      · rw [if_neg hb, if_neg (by omega)]
    · rfl
theorem part_le (N : Nat → Nat → Nat → Nat) (v s : ByteArray) (R : List (Nat × Nat)) (r i j c i' j' : Nat) : part N v s R r i j c i' j' ≤ 2 := by
  unfold part; split
  · exact phiL_le _ _ _ _ _ _ _ _ (by omega)
  · omega
end Pu
end Go.Proofs.YthmbbiahnfpoeaaDoor
