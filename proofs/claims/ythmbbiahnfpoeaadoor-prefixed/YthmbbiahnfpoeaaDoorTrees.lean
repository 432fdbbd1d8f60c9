import Derived.Test.YthmbbiahnfpoeaaDoorSeen
namespace Go.Proofs.YthmbbiahnfpoeaaDoor
namespace Pu

theorem acc_const {f : Nat → Nat} : ∀ m k, acc f m k 1 = 1 → ∀ c, k ≤ c → c < k + m → f c = 0
  | 0, _, _, _, _, _ => by omega
  | m + 1, k, h, c, h1, h2 => by
    have h' : acc f m (k + 1) (min 2 (1 + f k)) = 1 := h
    by_cases e : f k = 0
    · rw [e, show min 2 (1 + 0) = 1 by omega] at h'
      by_cases ec : c = k
      · subst ec; exact e
      · exact acc_const m (k + 1) h' c (by omega) (by omega)
    · rw [show min 2 (1 + f k) = 2 by omega, acc_two] at h'; omega
theorem acc_one {f : Nat → Nat} : ∀ m k, acc f m k 0 = 1 → ∃ c, k ≤ c ∧ c < k + m ∧ f c = 1 ∧ ∀ c', k ≤ c' → c' < k + m → c' ≠ c → f c' = 0
  | 0, _, h => by simp only [acc] at h; omega
  | m + 1, k, h => by
    have h' : acc f m (k + 1) (min 2 (0 + f k)) = 1 := h
    by_cases e : f k = 0
    · rw [e, show min 2 (0 + 0) = 0 by omega] at h'
      obtain ⟨c, h1, h2, h3, h4⟩ := acc_one m (k + 1) h'
      refine ⟨c, by omega, by omega, h3, fun c' g1 g2 g3 => ?_⟩
      by_cases ec : c' = k
      · subst ec; exact e
      · exact h4 c' (by omega) (by omega) g3
    · by_cases e1 : f k = 1
      · rw [e1, show min 2 (0 + 1) = 1 by omega] at h'
        refine ⟨k, Nat.le_refl _, by omega, e1, fun c' g1 g2 g3 => acc_const m (k + 1) h' c' (by omega) (by omega)⟩
      · rw [show min 2 (0 + f k) = 2 by omega, acc_two] at h'; omega
theorem acc_pos {f : Nat → Nat} : ∀ m k, 1 ≤ acc f m k 0 → ∃ c, k ≤ c ∧ c < k + m ∧ 1 ≤ f c
  | 0, _, h => by simp only [acc] at h; omega
  | m + 1, k, h => by
    have h' : 1 ≤ acc f m (k + 1) (min 2 (0 + f k)) := h
    by_cases e : f k = 0
    · rw [e, show min 2 (0 + 0) = 0 by omega] at h'
      obtain ⟨c, h1, h2, h3⟩ := acc_pos m (k + 1) h'
      exact ⟨c, by omega, by omega, h3⟩
    · exact ⟨k, Nat.le_refl _, by omega, by omega⟩

/-- In how many ways a rule has a piece. -/
def wayR (N : Nat → Nat → Nat → Nat) (v s : ByteArray) (r : Nat × Nat) (i j : Nat) : Nat := ways N v s (r.2 - (r.1 + 2)) (r.1 + 2) i j
/-- Those of rule number r, if it is the name's. -/
def ruleW (N : Nat → Nat → Nat → Nat) (v s : ByteArray) (R : List (Nat × Nat)) (c i j r : Nat) : Nat :=
  match R[r]? with | some x => if byt s x.1 = c then wayR N v s x i j else 0 | none => 0
theorem phiL_acc (N : Nat → Nat → Nat → Nat) (v s : ByteArray) (c i j : Nat) : ∀ (R l : List (Nat × Nat)) (n : Nat), n ≤ 2 → phiL N v s c i j R n = acc (ruleW N v s (l ++ R) c i j) R.length l.length n
  | [], _, _, _ => rfl
  | x :: R, l, n, hn => by
    have ih := phiL_acc N v s c i j R (l ++ [x]) (if byt s x.1 = c then min 2 (n + wayR N v s x i j) else n) (by split <;> omega)
    simp only [phiL, List.length_cons, acc]
    rw [show ways N v s (x.2 - (x.1 + 2)) (x.1 + 2) i j = wayR N v s x i j from rfl, ih]
    simp only [List.append_assoc, List.cons_append, List.nil_append, List.length_append, List.length_cons, List.length_nil, Nat.zero_add]
    congr 1
    have : ruleW N v s (l ++ x :: R) c i j l.length = if byt s x.1 = c then wayR N v s x i j else 0 := by
      unfold ruleW
      rw [List.getElem?_append_right (Nat.le_refl _), Nat.sub_self]; rfl
    rw [this]
    split <;> omega
theorem phi_acc (N : Nat → Nat → Nat → Nat) (v s : ByteArray) (R : List (Nat × Nat)) (c i j : Nat) : phi v s R N c i j = acc (ruleW N v s R c i j) R.length 0 0 := phiL_acc N v s c i j R [] 0 (by omega)
theorem ruleW_at {N : Nat → Nat → Nat → Nat} {v s : ByteArray} {R : List (Nat × Nat)} {c i j r : Nat} (h : r < R.length) : ruleW N v s R c i j r = if byt s R[r].1 = c then wayR N v s R[r] i j else 0 := by
  unfold ruleW; rw [List.getElem?_eq_getElem h]
theorem ruleW_mono {N M : Nat → Nat → Nat → Nat} {v s : ByteArray} {R : List (Nat × Nat)} {c i j r : Nat} (h : ∀ c i' j', i ≤ i' → i' ≤ j' → j' ≤ j → N c i' j' ≤ M c i' j') : ruleW N v s R c i j r ≤ ruleW M v s R c i j r := by
  unfold ruleW
  split
  · split
    · exact ways_mono _ _ _ _ h
    · exact Nat.le_refl _
  · exact Nat.le_refl _

/-- Rule r is the only one of the name that has the piece, and has it in one way. -/
def OneRule (N : Nat → Nat → Nat → Nat) (v s : ByteArray) (R : List (Nat × Nat)) (c i j r : Nat) : Prop :=
  r < R.length ∧ ruleW N v s R c i j r = 1 ∧ ∀ r', r' < R.length → r' ≠ r → ruleW N v s R c i j r' = 0
theorem one_rule {N : Nat → Nat → Nat → Nat} {v s : ByteArray} {R : List (Nat × Nat)} {c i j : Nat} (h : phi v s R N c i j = 1) : ∃ r, OneRule N v s R c i j r := by
  rw [phi_acc] at h
  obtain ⟨r, _, h2, h3, h4⟩ := acc_one _ _ h
  exact ⟨r, by omega, h3, fun r' g1 g2 => h4 r' (by omega) (by omega) g2⟩
theorem OneRule.lvl {N M : Nat → Nat → Nat → Nat} {v s : ByteArray} {R : List (Nat × Nat)} {c i j r : Nat} (h : OneRule N v s R c i j r) (hM : ∀ c i' j', i ≤ i' → i' ≤ j' → j' ≤ j → M c i' j' ≤ N c i' j') (hp : 1 ≤ phi v s R M c i j) : 1 ≤ ruleW M v s R c i j r := by
  rw [phi_acc] at hp
  obtain ⟨r', _, h2, h3⟩ := acc_pos _ _ hp
  by_cases e : r' = r
  · subst e; exact h3
  · have := h.2.2 r' (by omega) e
    have := ruleW_mono (v := v) (s := s) (R := R) (c := c) (r := r') hM
    omega
/-- The cut of a row of signs that has a piece in one way. -/
def OneCut (N : Nat → Nat → Nat → Nat) (v s : ByteArray) (k a i j q : Nat) : Prop :=
  i ≤ q ∧ q ≤ j ∧ N (byt s a) i q = 1 ∧ ways N v s k (a + 1) q j = 1 ∧ ∀ q', i ≤ q' → q' ≤ j → q' ≠ q → N (byt s a) i q' * ways N v s k (a + 1) q' j = 0
theorem one_cut {N : Nat → Nat → Nat → Nat} {v s : ByteArray} {k a i j : Nat} (hl : ¬ lt (byt s a) = true) (h : ways N v s (k + 1) a i j = 1) : ∃ q, OneCut N v s k a i j q := by
  simp only [ways] at h
  rw [if_neg hl] at h
  obtain ⟨q, h1, h2, h3, h4⟩ := acc_one _ _ h
  have h5 : N (byt s a) i q = 1 := Nat.dvd_one.1 ⟨_, h3.symm⟩
  have h6 : ways N v s k (a + 1) q j = 1 := by rw [h5, Nat.one_mul] at h3; exact h3
  exact ⟨q, h1, by omega, h5, h6, fun q' g1 g2 g3 => h4 q' g1 (by omega) g3⟩
theorem OneCut.lvl {N M : Nat → Nat → Nat → Nat} {v s : ByteArray} {k a i j q : Nat} (h : OneCut N v s k a i j q) (hl : ¬ lt (byt s a) = true) (hM : ∀ c i' j', i ≤ i' → i' ≤ j' → j' ≤ j → M c i' j' ≤ N c i' j') (hp : 1 ≤ ways M v s (k + 1) a i j) : 1 ≤ M (byt s a) i q ∧ 1 ≤ ways M v s k (a + 1) q j := by
  simp only [ways] at hp
  rw [if_neg hl] at hp
  obtain ⟨q', h1, h2, h3⟩ := acc_pos _ _ hp
  have hpos := Nat.pos_of_mul_pos_left (show 0 < _ from h3)
  by_cases e : q' = q
  · subst e
    exact ⟨Nat.pos_of_ne_zero (fun e => by rw [e] at h3; omega), Nat.pos_of_ne_zero (fun e => by rw [e] at h3; omega)⟩
  · have h0 := h.2.2.2.2 q' h1 (by omega) e
    have h4 := Nat.mul_le_mul (hM (byt s a) i q' (Nat.le_refl _) h1 (by omega)) (ways_mono (v := v) (s := s) k (a + 1) q' j (fun c i' j' g1 g2 g3 => hM c i' j' (by omega) g2 g3))
    omega
theorem way_letter {N : Nat → Nat → Nat → Nat} {v s : ByteArray} {k a i j : Nat} (hl : lt (byt s a) = true) (h : 1 ≤ ways N v s (k + 1) a i j) : i < j ∧ byt v i = byt s a ∧ ways N v s (k + 1) a i j = ways N v s k (a + 1) (i + 1) j := by
  simp only [ways] at h ⊢
  rw [if_pos hl] at h ⊢
  split at h
  · rename_i hh; exact ⟨hh.1, hh.2, by rw [if_pos hh]⟩
  · omega

/-- The first of m numbers from k on that will do. -/
def firstIn (f : Nat → Bool) : Nat → Nat → Option Nat
  | 0, _ => none
  | m + 1, k => if f k = true then some k else firstIn f m (k + 1)
theorem firstIn_at {f : Nat → Bool} : ∀ m k q, k ≤ q → q < k + m → f q = true → (∀ q', k ≤ q' → q' < q → f q' = false) → firstIn f m k = some q
  | 0, _, _, _, _, _, _ => by omega
  | m + 1, k, q, h1, h2, h3, h4 => by
    simp only [firstIn]
    by_cases e : q = k
    · subst e; rw [if_pos h3]
    · rw [if_neg (by rw [h4 k (Nat.le_refl _) (by omega)]; decide)]
      exact firstIn_at m (k + 1) q (by omega) (by omega) h3 (fun q' g1 g2 => h4 q' (by omega) g2)
/-- The texts of the trees of k signs from place a on, those of the names by T. -/
def rowT (N : Nat → Nat → Nat → Nat) (v s : ByteArray) (T : Nat → Nat → Nat → List UInt8) : Nat → Nat → Nat → Nat → List UInt8
  | 0, _, _, _ => []
  | k + 1, a, i, j =>
    if lt (byt s a) = true then rowT N v s T k (a + 1) (i + 1) j
    else match firstIn (fun q => N (byt s a) i q == 1 && ways N v s k (a + 1) q j == 1) (j + 1 - i) i with
      | some q => T (byt s a) i q ++ rowT N v s T k (a + 1) q j
      | none => []
def rowR (N : Nat → Nat → Nat → Nat) (v s : ByteArray) (T : Nat → Nat → Nat → List UInt8) (r : Nat × Nat) (i j : Nat) : List UInt8 := rowT N v s T (r.2 - (r.1 + 2)) (r.1 + 2) i j
/-- The text of the one tree, of at most that height. -/
def treeT (N : Nat → Nat → Nat → Nat) (v s : ByteArray) (R : List (Nat × Nat)) : Nat → Nat → Nat → Nat → List UInt8
  | 0 => fun _ _ _ => []
  | p + 1 => fun c i j =>
    match firstIn (fun r => ruleW N v s R c i j r == 1) R.length 0 with
    | some r => match R[r]? with | some x => UInt8.ofNat (48 + r) :: rowR N v s (treeT N v s R p) x i j | none => []
    | none => []
theorem OneCut.row {N : Nat → Nat → Nat → Nat} {v s : ByteArray} {k a i j q : Nat} (h : OneCut N v s k a i j q) (hl : ¬ lt (byt s a) = true) (T : Nat → Nat → Nat → List UInt8) : rowT N v s T (k + 1) a i j = T (byt s a) i q ++ rowT N v s T k (a + 1) q j := by
  obtain ⟨h1, h2, h3, h4, h5⟩ := h
  simp only [rowT]
  rw [if_neg hl, firstIn_at (j + 1 - i) i q h1 (by omega) (by simp [h3, h4]) (fun q' g1 g2 => ?_)]
  have := h5 q' g1 (by omega) (by omega)
  rcases Nat.mul_eq_zero.1 this with e | e <;> simp [e]
theorem OneRule.tree {N : Nat → Nat → Nat → Nat} {v s : ByteArray} {R : List (Nat × Nat)} {c i j r : Nat} (h : OneRule N v s R c i j r) (p : Nat) : treeT N v s R (p + 1) c i j = UInt8.ofNat (48 + r) :: rowR N v s (treeT N v s R p) (R[r]'h.1) i j := by
  obtain ⟨h1, h2, h3⟩ := h
  simp only [treeT]
  rw [firstIn_at R.length 0 r (Nat.zero_le _) (by omega) (by simp [h2]) (fun r' _ g2 => by simp [h3 r' (by omega) (by omega)])]
  simp only [List.getElem?_eq_getElem h1]
theorem OneRule.name {N : Nat → Nat → Nat → Nat} {v s : ByteArray} {R : List (Nat × Nat)} {c i j r : Nat} (h : OneRule N v s R c i j r) : byt s (R[r]'h.1).1 = c ∧ wayR N v s (R[r]'h.1) i j = 1 := by
  have h2 := h.2.1
  rw [ruleW_at h.1] at h2
  split at h2
  · rename_i e; exact ⟨e, h2⟩
  · omega
theorem OneRule.lvl' {N M : Nat → Nat → Nat → Nat} {v s : ByteArray} {R : List (Nat × Nat)} {c i j r : Nat} (h : OneRule N v s R c i j r) (hM : ∀ c i' j', i ≤ i' → i' ≤ j' → j' ≤ j → M c i' j' ≤ N c i' j') (hp : 1 ≤ phi v s R M c i j) : 1 ≤ wayR M v s (R[r]'h.1) i j := by
  have := h.lvl hM hp
  rw [ruleW_at h.1, if_pos h.name.1] at this
  exact this

section
variable {v s : ByteArray} {R : List (Nat × Nat)} {n : Nat} {N : Nat → Nat → Nat → Nat}
/-- Counts that stand still, and are no less than those of any height. -/
structure Stands (v s : ByteArray) (R : List (Nat × Nat)) (n : Nat) (N : Nat → Nat → Nat → Nat) : Prop where
  fix : ∀ c i j, i ≤ j → j ≤ n → phi v s R N c i j = N c i j
theorem Stands.le (h : Stands v s R n N) (p : Nat) {i j : Nat} (hj : j ≤ n) : ∀ c i' j', i ≤ i' → i' ≤ j' → j' ≤ j → lvl v s R p c i' j' ≤ N c i' j' :=
  fun c i' j' _ h2 h3 => lvl_le (fun c i j hi hj => Nat.le_of_eq (h.fix c i j hi hj)) p c i' j' h2 (by omega)
theorem row_congr {T U : Nat → Nat → Nat → List UInt8} {M : Nat → Nat → Nat → Nat} {i0 j0 : Nat} (hM : ∀ c i' j', i0 ≤ i' → i' ≤ j' → j' ≤ j0 → M c i' j' ≤ N c i' j')
    (hT : ∀ c i j, i0 ≤ i → i ≤ j → j ≤ j0 → N c i j = 1 → 1 ≤ M c i j → T c i j = U c i j) : ∀ k a i j, i0 ≤ i → j ≤ j0 → ways N v s k a i j = 1 → 1 ≤ ways M v s k a i j → rowT N v s T k a i j = rowT N v s U k a i j
  | 0, _, _, _, _, _, _, _ => rfl
  | k + 1, a, i, j, hi, hj, h1, h2 => by
    by_cases hl : lt (byt s a) = true
    · have e1 := way_letter hl (Nat.le_of_eq h1.symm)
      have e2 := way_letter hl h2
      simp only [rowT]
      rw [if_pos hl, if_pos hl]
      exact row_congr hM hT k (a + 1) (i + 1) j (by omega) hj (by rw [← e1.2.2]; exact h1) (by rw [← e2.2.2]; exact h2)
    · obtain ⟨q, hq⟩ := one_cut hl h1
      obtain ⟨g1, g2⟩ := hq.lvl hl (fun c i' j' a1 a2 a3 => hM c i' j' (by omega) a2 (by omega)) h2
      rw [hq.row hl, hq.row hl, hT _ _ _ hi hq.1 (by have := hq.2.1; omega) hq.2.2.1 g1, row_congr hM hT k (a + 1) q j (by have := hq.1; omega) hj hq.2.2.2.1 g2]
/-- More height, the same text. -/
theorem tree_succ (h : Stands v s R n N) : ∀ p c i j, i ≤ j → j ≤ n → N c i j = 1 → 1 ≤ lvl v s R p c i j → treeT N v s R (p + 1) c i j = treeT N v s R p c i j
  | 0, _, _, _, _, _, _, hp => by simp only [lvl] at hp; omega
  | p + 1, c, i, j, hi, hj, hN, hp => by
    obtain ⟨r, hr⟩ := one_rule (by rw [h.fix c i j hi hj]; exact hN)
    rw [hr.tree, hr.tree]
    congr 1
    exact row_congr (h.le p hj) (fun c i' j' a1 a2 a3 b1 b2 => tree_succ h p c i' j' a2 (by omega) b1 b2) _ _ i j (Nat.le_refl _) (Nat.le_refl _) hr.name.2 (hr.lvl' (h.le p hj) hp)

/-- How many names have trees of that height for a piece. -/
def kin (v s : ByteArray) (R : List (Nat × Nat)) (p i j : Nat) : Nat := 26 - cnt (fun c => decide (1 ≤ lvl v s R p c i j))
theorem kin_le (p i j : Nat) : kin v s R p i j ≤ 26 := by unfold kin; omega
theorem cnt_le26 (F : Nat → Bool) : cnt F ≤ 26 := by
  have := List.length_filter_le (fun k => !F (65 + k)) (List.range 26)
  simpa [cnt] using this
theorem kin_lt {p c i j : Nat} (h1 : 65 ≤ c) (h2 : c ≤ 90) (h0 : lvl v s R p c i j = 0) (hp : 1 ≤ lvl v s R (p + 1) c i j) : kin v s R p i j + 1 ≤ kin v s R (p + 1) i j := by
  have a := cnt_le26 (fun c => decide (1 ≤ lvl v s R p c i j))
  have b : cnt (fun c => decide (1 ≤ lvl v s R (p + 1) c i j)) < cnt (fun c => decide (1 ≤ lvl v s R p c i j)) := by
    refine filter_len_lt _ _ _ (fun x _ hx => ?_) ⟨c - 65, List.mem_range.2 (by omega), ?_, ?_⟩
    · have := lvl_succ v s R p (65 + x) i j
      simp only [Bool.not_eq_true', decide_eq_false_iff_not] at hx ⊢
      omega
    · rw [show 65 + (c - 65) = c by omega]; simp; omega
    · rw [show 65 + (c - 65) = c by omega]; simp; omega
  unfold kin; omega
theorem kin_mono (p i j : Nat) : kin v s R p i j ≤ kin v s R (p + 1) i j := by
  have : cnt (fun c => decide (1 ≤ lvl v s R (p + 1) c i j)) ≤ cnt (fun c => decide (1 ≤ lvl v s R p c i j)) := by
    refine filter_len _ _ _ (fun x _ hx => ?_)
    have := lvl_succ v s R p (65 + x) i j
    simp only [Bool.not_eq_true', decide_eq_false_iff_not] at hx ⊢
    omega
  unfold kin; omega
/-- How long the text of a tree of the empty text can be. -/
def much : Nat → Nat
  | 0 => 0
  | k + 1 => 1 + 3 * much k
theorem much_succ (k : Nat) : much k ≤ much (k + 1) := by show much k ≤ 1 + 3 * much k; omega
theorem much_mono {k m : Nat} (h : k ≤ m) : much k ≤ much m := by
  induction h with
  | refl => exact Nat.le_refl _
  | step _ ih => exact Nat.le_trans ih (much_succ _)
theorem much_26 : much 26 = 1270932914164 := by decide
theorem much_le {k : Nat} (h : k ≤ 26) : much k ≤ 1270932914164 := by rw [← much_26]; exact much_mono h
def bnd (l k : Nat) : Nat := if l = 0 then much k else 3812798742493 * (52 * (l - 1) + k)
theorem row_bnd {M : Nat → Nat → Nat → Nat} {T : Nat → Nat → Nat → List UInt8} {K : Nat → Nat → Nat} (hK : ∀ i j, K i j ≤ 26) {i0 j0 : Nat} (hM : ∀ c i' j', i0 ≤ i' → i' ≤ j' → j' ≤ j0 → M c i' j' ≤ N c i' j')
    (hT : ∀ c i j, i0 ≤ i → i ≤ j → j ≤ j0 → N c i j = 1 → 1 ≤ M c i j → (T c i j).length ≤ bnd (j - i) (K i j)) : ∀ k a i j, i0 ≤ i → i ≤ j → j ≤ j0 → ways N v s k a i j = 1 → 1 ≤ ways M v s k a i j →
    (rowT N v s T k a i j).length ≤ if i = j then k * much (K i j) else k * 1270932914164 + 3812798742493 * (52 * (j - i - 1) + K i j)
  | 0, _, i, j, _, _, _, _, _ => by simp [rowT]
  | k + 1, a, i, j, hi, hij, hj, h1, h2 => by
    by_cases hl : lt (byt s a) = true
    · have e1 := way_letter hl (Nat.le_of_eq h1.symm)
      have e2 := way_letter hl h2
      have ih := row_bnd hK hM hT k (a + 1) (i + 1) j (by omega) (by omega) hj (by rw [← e1.2.2]; exact h1) (by rw [← e2.2.2]; exact h2)
      simp only [rowT]
      rw [if_pos hl, if_neg (by omega)]
      have b1 := much_le (hK (i + 1) j)
      have b2 := hK (i + 1) j
      split at ih
      · have := Nat.mul_le_mul_left k b1; omega
      · rw [show j - i - 1 = (j - (i + 1) - 1) + 1 by omega]
        generalize j - (i + 1) - 1 = x at *
        exact Nat.le_trans ih (Nat.add_le_add (Nat.mul_le_mul_right _ (Nat.le_succ k)) (Nat.mul_le_mul_left _ (by omega)))
    · obtain ⟨q, hq⟩ := one_cut hl h1
      obtain ⟨g1, g2⟩ := hq.lvl hl (fun c i' j' a1 a2 a3 => hM c i' j' (by omega) a2 (by omega)) h2
      have hrow := hq.row hl T
      obtain ⟨q1, q2, q3, q4, _⟩ := hq
      have t := hT (byt s a) i q hi q1 (by omega) q3 g1
      have ih := row_bnd hK hM hT k (a + 1) q j (by omega) q2 hj q4 g2
      rw [hrow, List.length_append]
      unfold bnd at t
      have b1 := much_le (hK i q)
      have b2 := hK i q
      have b3 := much_le (hK q j)
      have b4 := hK q j
      have b5 := Nat.mul_le_mul_left k b3
      by_cases e : i = j
      · subst e
        obtain rfl : q = i := by omega
        rw [if_pos (by omega)] at t
        rw [if_pos rfl] at ih ⊢
        rw [Nat.add_mul]; omega
      · rw [if_neg e]
        by_cases e1 : q = i
        · subst e1
          rw [if_pos (by omega)] at t
          rw [if_neg e] at ih
          omega
        · rw [if_neg (by omega)] at t
          by_cases e2 : q = j
          · subst e2
            rw [if_pos rfl] at ih
            omega
          · rw [if_neg e2] at ih
            omega
theorem tree_bnd (h : Stands v s R n N) (hG : Good s R) (hS : Signed s R) : ∀ p c i j, i ≤ j → j ≤ n → N c i j = 1 → 1 ≤ lvl v s R p c i j → (treeT N v s R p c i j).length ≤ bnd (j - i) (kin v s R p i j)
  | 0, _, _, _, _, _, _, hp => by simp only [lvl] at hp; omega
  | p + 1, c, i, j, hi, hj, hN, hp => by
    by_cases h0 : lvl v s R p c i j = 0
    · have hc : 65 ≤ c ∧ c ≤ 90 := by
        refine Decidable.byContradiction fun hc => ?_
        rw [lvl_other hc hG] at hp; omega
      have hk := kin_lt hc.1 hc.2 h0 hp
      obtain ⟨r, hr⟩ := one_rule (by rw [h.fix c i j hi hj]; exact hN)
      have hb := row_bnd (K := kin v s R p) (fun i j => kin_le p i j) (h.le p hj) (T := treeT N v s R p) (i0 := i) (j0 := j) (fun c i' j' a1 a2 a3 b1 b2 => tree_bnd h hG hS p c i' j' a2 (by omega) b1 b2) _ _ i j (Nat.le_refl _) hi (Nat.le_refl _) hr.name.2 (hr.lvl' (h.le p hj) hp)
      have h3 : (R[r]'hr.1).2 ≤ (R[r]'hr.1).1 + 5 := (hS _ (List.getElem_mem hr.1)).1
      rw [hr.tree, List.length_cons]
      have h3' : (R[r]'hr.1).2 - ((R[r]'hr.1).1 + 2) ≤ 3 := by omega
      show (rowT N v s (treeT N v s R p) ((R[r]'hr.1).2 - ((R[r]'hr.1).1 + 2)) ((R[r]'hr.1).1 + 2) i j).length + 1 ≤ _
      unfold bnd
      split at hb
      · rw [if_pos (by omega)]
        have b := much_mono hk
        have b2 := Nat.mul_le_mul_right (much (kin v s R p i j)) h3'
        have e : much (kin v s R p i j + 1) = 1 + 3 * much (kin v s R p i j) := rfl
        omega
      · rw [if_neg (by omega)]
        have b2 := Nat.mul_le_mul_right 1270932914164 h3'
        omega
    · rw [tree_succ h p c i j hi hj hN (by omega)]
      have t := tree_bnd h hG hS p c i j hi hj hN (by omega)
      have hm := kin_mono (v := v) (s := s) (R := R) p i j
      unfold bnd at t ⊢
      split at t
      · rename_i e; rw [if_pos e]; exact Nat.le_trans t (much_mono hm)
      · rename_i e; rw [if_neg e]; omega
theorem tree_short (h : Stands v s R n N) (hG : Good s R) (hS : Signed s R) (hn : n ≤ 24) {p c i j : Nat} (hi : i ≤ j) (hj : j ≤ n) (hN : N c i j = 1) (hp : 1 ≤ lvl v s R p c i j) : (treeT N v s R p c i j).length ≤ 10000000000000000 := by
  have t := tree_bnd h hG hS p c i j hi hj hN hp
  have b := kin_le (v := v) (s := s) (R := R) p i j
  unfold bnd at t
  split at t
  · have := much_le b; omega
  · omega
end
end Pu
end Go.Proofs.YthmbbiahnfpoeaaDoor
