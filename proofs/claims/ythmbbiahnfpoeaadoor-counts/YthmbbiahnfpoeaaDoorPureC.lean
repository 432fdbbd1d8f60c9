import Derived.Test.YthmbbiahnfpoeaaDoorPure
namespace Go.Proofs.YthmbbiahnfpoeaaDoor
namespace Pu

/-- A sum that stops at two. -/
def acc (f : Nat → Nat) : Nat → Nat → Nat → Nat
  | 0, _, n => n
  | m + 1, k, n => acc f m (k + 1) (min 2 (n + f k))
/-- In how many ways k signs from place a of s on have the piece of v from i to j. -/
def ways (N : Nat → Nat → Nat → Nat) (v s : ByteArray) : Nat → Nat → Nat → Nat → Nat
  | 0, _, i, j => if i = j then 1 else 0
  | k + 1, a, i, j =>
    if lt (byt s a) = true then (if i < j ∧ byt v i = byt s a then ways N v s k (a + 1) (i + 1) j else 0)
    else acc (fun c => N (byt s a) i c * ways N v s k (a + 1) c j) (j + 1 - i) i 0
/-- Those of the rules of a name. -/
def phiL (N : Nat → Nat → Nat → Nat) (v s : ByteArray) (c i j : Nat) : List (Nat × Nat) → Nat → Nat
  | [], n => n
  | r :: R, n => phiL N v s c i j R (if byt s r.1 = c then min 2 (n + ways N v s (r.2 - (r.1 + 2)) (r.1 + 2) i j) else n)
def phi (v s : ByteArray) (R : List (Nat × Nat)) (N : Nat → Nat → Nat → Nat) (c i j : Nat) : Nat := phiL N v s c i j R 0
def lvl (v s : ByteArray) (R : List (Nat × Nat)) : Nat → Nat → Nat → Nat → Nat
  | 0 => fun _ _ _ => 0
  | m + 1 => phi v s R (lvl v s R m)

theorem acc_le (f : Nat → Nat) : ∀ m k n, n ≤ 2 → acc f m k n ≤ 2
  | 0, _, _, h => h
  | m + 1, k, _, _ => acc_le f m (k + 1) _ (Nat.min_le_left _ _)
theorem acc_two (f : Nat → Nat) : ∀ m k, acc f m k 2 = 2
  | 0, _ => rfl
  | m + 1, k => by show acc f m (k + 1) (min 2 (2 + f k)) = 2; rw [Nat.min_eq_left (by omega)]; exact acc_two f m (k + 1)
theorem acc_mono {f g : Nat → Nat} : ∀ m k n n', n ≤ n' → (∀ c, k ≤ c → c < k + m → f c ≤ g c) → acc f m k n ≤ acc g m k n'
  | 0, _, _, _, h, _ => h
  | m + 1, k, n, n', h, hf => acc_mono m (k + 1) _ _ (by have := hf k (Nat.le_refl _) (by omega); omega) (fun c h1 h2 => hf c (by omega) (by omega))
theorem acc_congr {f g : Nat → Nat} (m k n : Nat) (hf : ∀ c, k ≤ c → c < k + m → f c = g c) : acc f m k n = acc g m k n :=
  Nat.le_antisymm (acc_mono m k n n (Nat.le_refl _) (fun c h1 h2 => Nat.le_of_eq (hf c h1 h2))) (acc_mono m k n n (Nat.le_refl _) (fun c h1 h2 => Nat.le_of_eq (hf c h1 h2).symm))
theorem acc_ge (f : Nat → Nat) : ∀ m k n, n ≤ 2 → n ≤ acc f m k n
  | 0, _, _, _ => Nat.le_refl _
  | m + 1, k, n, h => Nat.le_trans (by omega) (acc_ge f m (k + 1) (min 2 (n + f k)) (Nat.min_le_left _ _))

theorem ways_le (N : Nat → Nat → Nat → Nat) (v s : ByteArray) : ∀ k a i j, ways N v s k a i j ≤ 2
  | 0, _, i, j => by simp only [ways]; split <;> omega
  | k + 1, a, i, j => by
    simp only [ways]; split
    · split
      · exact ways_le N v s k (a + 1) (i + 1) j
      · omega
    · exact acc_le _ _ _ _ (by omega)
/-- More trees of the names, no fewer ways; only pieces inside the piece matter. -/
theorem ways_mono {N M : Nat → Nat → Nat → Nat} {v s : ByteArray} : ∀ k a i j, (∀ c i' j', i ≤ i' → i' ≤ j' → j' ≤ j → N c i' j' ≤ M c i' j') → ways N v s k a i j ≤ ways M v s k a i j
  | 0, _, _, _, _ => Nat.le_refl _
  | k + 1, a, i, j, h => by
    simp only [ways]; split
    · split
      · exact ways_mono k (a + 1) (i + 1) j (fun c i' j' h1 h2 h3 => h c i' j' (by omega) h2 h3)
      · exact Nat.le_refl _
    · refine acc_mono _ _ _ _ (Nat.le_refl _) (fun c h1 h2 => ?_)
      exact Nat.mul_le_mul (h _ i c (Nat.le_refl _) h1 (by omega)) (ways_mono k (a + 1) c j (fun c' i' j' g1 g2 g3 => h c' i' j' (by omega) g2 g3))
theorem phiL_le (N : Nat → Nat → Nat → Nat) (v s : ByteArray) (c i j : Nat) : ∀ R n, n ≤ 2 → phiL N v s c i j R n ≤ 2
  | [], _, h => h
  | r :: R, n, h => by
    simp only [phiL]
    refine phiL_le N v s c i j R _ ?_
    split
    · exact Nat.min_le_left _ _
    · exact h
theorem phiL_mono {N M : Nat → Nat → Nat → Nat} {v s : ByteArray} {c i j : Nat} (h : ∀ c i' j', i ≤ i' → i' ≤ j' → j' ≤ j → N c i' j' ≤ M c i' j') : ∀ R n n', n ≤ n' → phiL N v s c i j R n ≤ phiL M v s c i j R n'
  | [], _, _, hn => hn
  | r :: R, n, n', hn => by
    simp only [phiL]
    refine phiL_mono h R _ _ ?_
    have := ways_mono (v := v) (s := s) (r.2 - (r.1 + 2)) (r.1 + 2) i j h
    split
    · omega
    · exact hn
theorem phi_mono {N M : Nat → Nat → Nat → Nat} {v s : ByteArray} {R : List (Nat × Nat)} {c i j : Nat} (h : ∀ c i' j', i ≤ i' → i' ≤ j' → j' ≤ j → N c i' j' ≤ M c i' j') : phi v s R N c i j ≤ phi v s R M c i j := phiL_mono h R 0 0 (Nat.le_refl _)
theorem phi_le (v s : ByteArray) (R : List (Nat × Nat)) (N : Nat → Nat → Nat → Nat) (c i j : Nat) : phi v s R N c i j ≤ 2 := phiL_le N v s c i j R 0 (by omega)
theorem phi_congr {N M : Nat → Nat → Nat → Nat} {v s : ByteArray} {R : List (Nat × Nat)} {c i j : Nat} (h : ∀ c i' j', i ≤ i' → i' ≤ j' → j' ≤ j → N c i' j' = M c i' j') : phi v s R N c i j = phi v s R M c i j :=
  Nat.le_antisymm (phi_mono fun c i' j' a b d => Nat.le_of_eq (h c i' j' a b d)) (phi_mono fun c i' j' a b d => Nat.le_of_eq (h c i' j' a b d).symm)
theorem lvl_le {v s : ByteArray} {R : List (Nat × Nat)} {n : Nat} {M : Nat → Nat → Nat → Nat} (hM : ∀ c i j, i ≤ j → j ≤ n → phi v s R M c i j ≤ M c i j) : ∀ m c i j, i ≤ j → j ≤ n → lvl v s R m c i j ≤ M c i j
  | 0, _, _, _, _, _ => Nat.zero_le _
  | m + 1, c, i, j, hi, hj => Nat.le_trans (phi_mono fun c' i' j' a b d => lvl_le hM m c' i' j' b (by omega)) (hM c i j hi hj)
theorem lvl_two (v s : ByteArray) (R : List (Nat × Nat)) : ∀ m c i j, lvl v s R m c i j ≤ 2
  | 0, _, _, _ => by show 0 ≤ 2; omega
  | m + 1, c, i, j => phi_le v s R _ c i j
theorem lvl_succ (v s : ByteArray) (R : List (Nat × Nat)) : ∀ m c i j, lvl v s R m c i j ≤ lvl v s R (m + 1) c i j
  | 0, _, _, _ => Nat.zero_le _
  | m + 1, _, _, _ => phi_mono fun c' i' j' _ _ _ => lvl_succ v s R m c' i' j'
/-- The counts: what stands still, and no more. -/
def Cnt (v s : ByteArray) (R : List (Nat × Nat)) (n : Nat) (N : Nat → Nat → Nat → Nat) : Prop :=
  (∃ m, ∀ c i j, i ≤ j → j ≤ n → N c i j = lvl v s R m c i j) ∧ ∀ c i j, i ≤ j → j ≤ n → phi v s R N c i j = N c i j
theorem Cnt.unique {v s : ByteArray} {R : List (Nat × Nat)} {n : Nat} {N M : Nat → Nat → Nat → Nat} (h : Cnt v s R n N) (hM : ∀ c i j, i ≤ j → j ≤ n → phi v s R M c i j ≤ M c i j) (hle : ∀ c i j, i ≤ j → j ≤ n → M c i j ≤ N c i j) :
    ∀ c i j, i ≤ j → j ≤ n → M c i j = N c i j := by
  obtain ⟨⟨m, hm⟩, _⟩ := h
  intro c i j hi hj
  exact Nat.le_antisymm (hle c i j hi hj) (by rw [hm c i j hi hj]; exact lvl_le hM m c i j hi hj)
theorem Cnt.same {v s : ByteArray} {R : List (Nat × Nat)} {n : Nat} {N M : Nat → Nat → Nat → Nat} (h : Cnt v s R n N) (k : Cnt v s R n M) : ∀ c i j, i ≤ j → j ≤ n → M c i j = N c i j := by
  intro c i j hi hj
  have a := lvl_le (fun c i j hi hj => Nat.le_of_eq (h.2 c i j hi hj))
  have b := lvl_le (fun c i j hi hj => Nat.le_of_eq (k.2 c i j hi hj))
  obtain ⟨⟨m, hm⟩, _⟩ := h
  obtain ⟨⟨m', hm'⟩, _⟩ := k
  exact Nat.le_antisymm (by rw [hm' c i j hi hj]; exact a m' c i j hi hj) (by rw [hm c i j hi hj]; exact b m c i j hi hj)
end Pu
end Go.Proofs.YthmbbiahnfpoeaaDoor
