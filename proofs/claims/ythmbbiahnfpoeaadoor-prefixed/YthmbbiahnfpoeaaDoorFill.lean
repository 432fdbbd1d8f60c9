import Derived.Test.YthmbbiahnfpoeaaDoorGrowP
import Derived.Test.YthmbbiahnfpoeaaDoorSeen
namespace Go.Proofs.YthmbbiahnfpoeaaDoor
namespace Pu

theorem phiL_notin {N : Nat → Nat → Nat → Nat} {v s : ByteArray} {c i j : Nat} : ∀ (R : List (Nat × Nat)) (n : Nat), (∀ r ∈ R, byt s r.1 ≠ c) → phiL N v s c i j R n = n
  | [], _, _ => rfl
  | r :: R, n, h => by
    simp only [phiL]
    rw [if_neg (h r List.mem_cons_self)]
    exact phiL_notin R n (fun x hx => h x (List.mem_cons_of_mem r hx))
/-- The counts while they are filled: pieces shorter than sz are done, and those of that size that begin ahead of fr. -/
structure Fill (v s : ByteArray) (R : List (Nat × Nat)) (L : List Nat) (n : Nat) (X N : Nat → Nat → Nat → Nat) (sz fr : Nat) : Prop where
  two : ∀ c i j, N c i j ≤ 2
  le : ∀ c i j, i ≤ j → j ≤ n → N c i j ≤ X c i j
  low : ∀ c i j, j < i → N c i j = 0
  done : ∀ c i j, i ≤ j → j ≤ n → (j - i < sz ∨ (j - i = sz ∧ i < fr)) → phi v s R N c i j ≤ N c i j
section
variable {v s : ByteArray} {R : List (Nat × Nat)} {L : List Nat} {n : Nat} {X N : Nat → Nat → Nat → Nat} {sz fr : Nat}
theorem Fill.start : Fill v s R L n X (fun _ _ _ => 0) 0 0 := ⟨fun _ _ _ => by omega, fun _ _ _ _ _ => Nat.zero_le _, fun _ _ _ _ => rfl, fun _ _ _ _ _ h => by omega⟩
theorem Fill.next (h : Fill v s R L n X N sz (n - sz + 1)) : Fill v s R L n X N (sz + 1) 0 :=
  ⟨h.two, h.le, h.low, fun c i j h1 h2 h3 => h.done c i j h1 h2 (by omega)⟩
/-- One growing. -/
theorem Fill.grow (h : Fill v s R L n X N sz fr) (hX : ∀ c i j, i ≤ j → j ≤ n → phi v s R X c i j = X c i j) (hj : fr + sz ≤ n) : Fill v s R L n X (partN N (fun c => phi v s R N c fr (fr + sz)) L fr (fr + sz) L.length) sz fr := by
  have hp : ∀ c, phi v s R N c fr (fr + sz) ≤ X c fr (fr + sz) := fun c => by
    rw [← hX c fr (fr + sz) (by omega) hj]
    exact phi_mono fun c' i' j' h1 h2 h3 => h.le c' i' j' h2 (by omega)
  refine ⟨fun c i j => ?_, fun c i j h1 h2 => ?_, fun c i j h1 => ?_, fun c i j h1 h2 h3 => ?_⟩
  · have a := h.two c i j
    unfold partN
    split
    · have := phi_le v s R N c fr (fr + sz); dsimp only; omega
    · exact a
  · have a := h.le c i j h1 h2
    unfold partN
    split
    · rename_i e; obtain ⟨rfl, rfl, _⟩ := e
      have := hp c; dsimp only; omega
    · exact a
  · unfold partN
    rw [if_neg (by omega)]; exact h.low c i j h1
  · have key : ∀ c' i' j', i ≤ i' → i' ≤ j' → j' ≤ j → partN N (fun c => phi v s R N c fr (fr + sz)) L fr (fr + sz) L.length c' i' j' = N c' i' j' := fun c' i' j' g1 g2 g3 => by
      unfold partN; rw [if_neg (by omega)]
    rw [phi_congr key, key c i j (Nat.le_refl _) h1 (Nat.le_refl _)]
    exact h.done c i j h1 h2 h3
/-- No more growing. -/
theorem Fill.ready (h : Fill v s R L n X N sz fr) (hLR : ∀ r ∈ R, byt s r.1 ∈ L) (hF : Found N (fun c => phi v s R N c fr (fr + sz)) L fr (fr + sz) L.length false) :
    partN N (fun c => phi v s R N c fr (fr + sz)) L fr (fr + sz) L.length = N ∧ Fill v s R L n X N sz (fr + 1) := by
  have hle := hF.2 rfl
  rw [List.take_length] at hle
  constructor
  · funext c i j
    unfold partN
    split
    · rename_i e; obtain ⟨rfl, rfl, hc⟩ := e
      rw [List.take_length] at hc
      have := hle c hc; dsimp only at this ⊢; omega
    · rfl
  · refine ⟨h.two, h.le, h.low, fun c i j h1 h2 h3 => ?_⟩
    by_cases e : j - i = sz ∧ i = fr
    · obtain ⟨e1, rfl⟩ := e
      obtain rfl : j = i + sz := by omega
      by_cases hc : c ∈ L
      · exact hle c hc
      · have : phi v s R N c i (i + sz) = 0 := phiL_notin R 0 (fun r hr e => hc (e ▸ hLR r hr))
        omega
    · exact h.done c i j h1 h2 (by omega)
theorem grow_tot {i0 j0 : Nat} (P : Nat → Nat) (hL : ∀ c ∈ L, 65 ≤ c ∧ c ≤ 90) (hi : i0 ≤ n) (hj : j0 ≤ n) (h2 : ∀ c i j, partN N P L i0 j0 L.length c i j ≤ 2) (hF : Found N P L i0 j0 L.length true) :
    tot (fun _ _ _ => 2) n - tot (partN N P L i0 j0 L.length) n < tot (fun _ _ _ => 2) n - tot N n := by
  obtain ⟨c, hc, hlt⟩ := hF.1 rfl
  have hcL : c ∈ L := by rw [List.take_length] at hc; exact hc
  obtain ⟨h65, h90⟩ := hL c hcL
  have a : tot N n < tot (partN N P L i0 j0 L.length) n := by
    refine tot_lt (k := c - 65) (fun c i j => ?_) (by omega) hi hj ?_
    · unfold partN; split
      · omega
      · exact Nat.le_refl _
    · rw [show 65 + (c - 65) = c by omega]
      unfold partN
      rw [if_pos ⟨rfl, rfl, hc⟩]
      omega
  have b := tot_le (n := n) h2
  omega
theorem Fill.end {m : Nat} (hm : Cnt v s R n (lvl v s R m)) (h : Fill v s R L n (lvl v s R m) N (n + 1) 0) (c i j : Nat) (hj : j ≤ n) : N c i j = lvl v s R m c i j := by
  by_cases e : i ≤ j
  · exact hm.unique (M := N) (fun c i j h1 h2 => h.done c i j h1 h2 (by omega)) h.le c i j e hj
  · rw [h.low c i j (by omega), lvl_gt (by omega)]
end
end Pu
end Go.Proofs.YthmbbiahnfpoeaaDoor
