import Derived.Test.YtdbjkcpjpmglkaaDoorTrees
import Derived.Test.YtdbjkcpjpmglkaaDoorSign
namespace Go.Proofs.YtdbjkcpjpmglkaaDoor
namespace Pu

/-- Will one of m numbers from k on do? -/
def anyIn (f : Nat → Bool) : Nat → Nat → Bool
  | 0, _ => false
  | m + 1, k => f k || anyIn f m (k + 1)
theorem anyIn_iff (f : Nat → Bool) : ∀ m k, anyIn f m k = true ↔ ∃ j, k ≤ j ∧ j < k + m ∧ f j = true
  | 0, k => by simp only [anyIn]; exact ⟨fun h => (by cases h), fun ⟨j, h1, h2, _⟩ => by omega⟩
  | m + 1, k => by
    simp only [anyIn, Bool.or_eq_true]
    rw [anyIn_iff f m (k + 1)]
    constructor
    · rintro (h | ⟨j, h1, h2, h3⟩)
      · exact ⟨k, by omega, by omega, h⟩
      · exact ⟨j, by omega, by omega, h3⟩
    · rintro ⟨j, h1, h2, h3⟩
      by_cases e : j = k
      · subst e; exact .inl h3
      · exact .inr ⟨j, by omega, by omega, h3⟩
theorem anyIn_congr {f g : Nat → Bool} {m k : Nat} (h : ∀ j, k ≤ j → j < k + m → f j = g j) : anyIn f m k = anyIn g m k := by
  rw [Bool.eq_iff_iff, anyIn_iff, anyIn_iff]
  constructor
  · rintro ⟨j, h1, h2, h3⟩; exact ⟨j, h1, h2, by rw [← h j h1 h2]; exact h3⟩
  · rintro ⟨j, h1, h2, h3⟩; exact ⟨j, h1, h2, by rw [h j h1 h2]; exact h3⟩
/-- Can k signs from place a on have a word that begins with what is behind place i of the first n letters? -/
def beg (N : Nat → Nat → Nat → Nat) (v s : ByteArray) (n : Nat) (G : Nat → Nat → Bool) : Nat → Nat → Nat → Bool
  | 0, _, i => decide (i = n)
  | k + 1, a, i =>
    if i = n then true
    else if lt (byt s a) = true then decide (byt v i = byt s a) && beg N v s n G k (a + 1) (i + 1)
    else if G (byt s a) i = true then true
    else anyIn (fun j => decide (0 < N (byt s a) i j) && beg N v s n G k (a + 1) j) (n + 1 - i) i
theorem beg_mono {N : Nat → Nat → Nat → Nat} {v s : ByteArray} {n : Nat} {G G' : Nat → Nat → Bool} (h : ∀ c i, i < n → G c i = true → G' c i = true) : ∀ k a i, i ≤ n → beg N v s n G k a i = true → beg N v s n G' k a i = true
  | 0, _, _, _, hb => hb
  | k + 1, a, i, hi, hb => by
    simp only [beg] at hb ⊢
    by_cases e : i = n
    · rw [if_pos e]
    · rw [if_neg e] at hb ⊢
      by_cases hl : lt (byt s a) = true
      · rw [if_pos hl] at hb ⊢
        rw [Bool.and_eq_true] at hb ⊢
        exact ⟨hb.1, beg_mono h k (a + 1) (i + 1) (by omega) hb.2⟩
      · rw [if_neg hl] at hb ⊢
        by_cases hg : G (byt s a) i = true
        · rw [if_pos (h _ _ (by omega) hg)]
        · rw [if_neg hg] at hb
          split
          · rfl
          · rw [anyIn_iff] at hb ⊢
            obtain ⟨j, h1, h2, h3⟩ := hb
            rw [Bool.and_eq_true] at h3
            exact ⟨j, h1, h2, by rw [Bool.and_eq_true]; exact ⟨h3.1, beg_mono h k (a + 1) j (by omega) h3.2⟩⟩
theorem beg_congr {N M : Nat → Nat → Nat → Nat} {u v s : ByteArray} {n : Nat} {G G' : Nat → Nat → Bool} (hv : ∀ x, x < n → byt u x = byt v x) (hN : ∀ c i j, i ≤ j → j ≤ n → N c i j = M c i j) (hG : ∀ c i, i < n → G c i = G' c i) : ∀ k a i, i ≤ n → beg N u s n G k a i = beg M v s n G' k a i
  | 0, _, _, _ => rfl
  | k + 1, a, i, hi => by
    simp only [beg]
    by_cases e : i = n
    · rw [if_pos e, if_pos e]
    · rw [if_neg e, if_neg e, hv i (by omega), hG _ i (by omega), beg_congr hv hN hG k (a + 1) (i + 1) (by omega)]
      have : anyIn (fun j => decide (0 < N (byt s a) i j) && beg N u s n G k (a + 1) j) (n + 1 - i) i = anyIn (fun j => decide (0 < M (byt s a) i j) && beg M v s n G' k (a + 1) j) (n + 1 - i) i :=
        anyIn_congr fun j h1 h2 => by rw [hN _ i j h1 (by omega), beg_congr hv hN hG k (a + 1) j (by omega)]
      rw [this]
/-- A name opens at a place by one of its rules. -/
def Opens (N : Nat → Nat → Nat → Nat) (v s : ByteArray) (R : List (Nat × Nat)) (n : Nat) (G : Nat → Nat → Bool) (c i : Nat) : Prop :=
  ∃ r ∈ R, byt s r.1 = c ∧ beg N v s n G (r.2 - (r.1 + 2)) (r.1 + 2) i = true
def ClosedB (N : Nat → Nat → Nat → Nat) (v s : ByteArray) (R : List (Nat × Nat)) (n : Nat) (G : Nat → Nat → Bool) : Prop := ∀ c i, i < n → Opens N v s R n G c i → G c i = true
def Under (N : Nat → Nat → Nat → Nat) (v s : ByteArray) (R : List (Nat × Nat)) (n : Nat) (G : Nat → Nat → Bool) : Prop := ∀ G', ClosedB N v s R n G' → ∀ c i, i < n → G c i = true → G' c i = true
/-- What opens: closed, and no more. -/
structure Lfp (N : Nat → Nat → Nat → Nat) (v s : ByteArray) (R : List (Nat × Nat)) (n : Nat) (G : Nat → Nat → Bool) : Prop where
  closed : ClosedB N v s R n G
  under : Under N v s R n G
def addG (G : Nat → Nat → Bool) (c i : Nat) : Nat → Nat → Bool := fun c' i' => if c' = c ∧ i' = i then true else G c' i'
section
variable {N M : Nat → Nat → Nat → Nat} {u v s : ByteArray} {R : List (Nat × Nat)} {n : Nat} {G G' : Nat → Nat → Bool}
theorem Lfp.unique (h : Lfp N v s R n G) (k : Lfp N v s R n G') {c i : Nat} (hi : i < n) : G c i = G' c i := by
  rw [Bool.eq_iff_iff]
  exact ⟨h.under G' k.closed c i hi, k.under G h.closed c i hi⟩
theorem Under.start : Under N v s R n (fun _ _ => false) := fun _ _ _ _ _ h => by cases h
theorem Under.add (h : Under N v s R n G) {r : Nat × Nat} (hr : r ∈ R) {i : Nat} (hb : beg N v s n G (r.2 - (r.1 + 2)) (r.1 + 2) i = true) : Under N v s R n (addG G (byt s r.1) i) := by
  intro G' hc c i' hi' hg
  unfold addG at hg
  split at hg
  · rename_i e
    obtain ⟨rfl, rfl⟩ := e
    exact hc _ _ hi' ⟨r, hr, rfl, beg_mono (h G' hc) _ _ _ (by omega) hb⟩
  · exact h G' hc c i' hi' hg
theorem Under.congr (h : Under N v s R n G) (he : ∀ c i, i < n → G' c i = true → G c i = true) : Under N v s R n G' := fun G'' hc c i hi hg => h G'' hc c i hi (he c i hi hg)
theorem Lfp.congr (h : Lfp N v s R n G) (he : ∀ c i, i < n → G c i = G' c i) : Lfp N v s R n G' := by
  refine ⟨fun c i hi ho => ?_, h.under.congr fun c i hi hg => by rw [he c i hi]; exact hg⟩
  obtain ⟨r, h1, h2, h3⟩ := ho
  rw [← he c i hi]
  refine h.closed c i hi ⟨r, h1, h2, ?_⟩
  rw [← h3]
  exact beg_congr (fun _ _ => rfl) (fun _ _ _ _ _ => rfl) he _ _ _ (by omega)
theorem closedB_cut (hv : ∀ x, x < n → byt u x = byt v x) (hN : ∀ c i j, i ≤ j → j ≤ n → N c i j = M c i j) (h : ClosedB N u s R n G) : ClosedB M v s R n G := fun c i hi ⟨r, h1, h2, h3⟩ =>
  h c i hi ⟨r, h1, h2, by rw [← h3]; exact beg_congr hv hN (fun _ _ _ => rfl) _ _ _ (by omega)⟩
theorem Lfp.cut (h : Lfp N u s R n G) (hv : ∀ x, x < n → byt u x = byt v x) (hN : ∀ c i j, i ≤ j → j ≤ n → N c i j = M c i j) : Lfp M v s R n G :=
  ⟨closedB_cut hv hN h.closed, fun G' hc => h.under G' (closedB_cut (fun x hx => (hv x hx).symm) (fun c i j h1 h2 => (hN c i j h1 h2).symm) hc)⟩
end
theorem ways_cut {N M : Nat → Nat → Nat → Nat} {u v s : ByteArray} {n : Nat} (hv : ∀ x, x < n → byt u x = byt v x) (hN : ∀ c i j, i ≤ j → j ≤ n → N c i j = M c i j) : ∀ k a i j, j ≤ n → ways N u s k a i j = ways M v s k a i j
  | 0, _, _, _, _ => rfl
  | k + 1, a, i, j, hj => by
    simp only [ways]
    by_cases hl : lt (byt s a) = true
    · rw [if_pos hl, if_pos hl, ways_cut hv hN k (a + 1) (i + 1) j hj]
      by_cases hij : i < j
      · rw [hv i (by omega)]
      · rw [if_neg (fun h => hij h.1), if_neg (fun h => hij h.1)]
    · rw [if_neg hl, if_neg hl]
      exact acc_congr _ _ _ fun c h1 h2 => by rw [hN _ i c h1 (by omega), ways_cut hv hN k (a + 1) c j hj]
theorem phiL_cut {N M : Nat → Nat → Nat → Nat} {u v s : ByteArray} {n c i j : Nat} (hv : ∀ x, x < n → byt u x = byt v x) (hN : ∀ c i j, i ≤ j → j ≤ n → N c i j = M c i j) (hj : j ≤ n) : ∀ (R : List (Nat × Nat)) (x : Nat), phiL N u s c i j R x = phiL M v s c i j R x
  | [], _ => rfl
  | r :: R, x => by
    simp only [phiL]
    rw [ways_cut hv hN _ _ _ _ hj]
    exact phiL_cut hv hN hj R _
theorem lvl_cut {u v s : ByteArray} {R : List (Nat × Nat)} {n : Nat} (hv : ∀ x, x < n → byt u x = byt v x) : ∀ m c i j, i ≤ j → j ≤ n → lvl u s R m c i j = lvl v s R m c i j
  | 0, _, _, _, _, _ => rfl
  | m + 1, _, _, _, _, hj => phiL_cut hv (fun c i j h1 h2 => lvl_cut hv m c i j h1 h2) hj R 0
theorem Cnt.cut {u v s : ByteArray} {R : List (Nat × Nat)} {n n' m : Nat} (h : Cnt v s R n' (lvl v s R m)) (hn : n ≤ n') (hv : ∀ x, x < n → byt u x = byt v x) : Cnt u s R n (lvl u s R m) :=
  ⟨⟨m, fun _ _ _ _ _ => rfl⟩, fun c i j hi hj => by
    have e1 : phi u s R (lvl u s R m) c i j = phi v s R (lvl v s R m) c i j := phiL_cut hv (fun c i j h1 h2 => lvl_cut hv m c i j h1 h2) hj R 0
    rw [e1, h.2 c i j hi (by omega), lvl_cut hv m c i j hi hj]⟩
/-- Whether some word begins with the first n letters. -/
def Bg (N : Nat → Nat → Nat → Nat) (v s : ByteArray) (R : List (Nat × Nat)) (c n : Nat) (b : Bool) : Prop := ∃ G, Lfp N v s R n G ∧ b = G c 0
theorem Bg.unique {N : Nat → Nat → Nat → Nat} {v s : ByteArray} {R : List (Nat × Nat)} {c n : Nat} {b b' : Bool} (h : Bg N v s R c n b) (k : Bg N v s R c n b') (hn : 0 < n) : b = b' := by
  obtain ⟨G, h1, rfl⟩ := h
  obtain ⟨G', k1, rfl⟩ := k
  exact h1.unique k1 hn
/-- The longest of them, from k letters down. -/
def Pfx (N : Nat → Nat → Nat → Nat) (v s : ByteArray) (R : List (Nat × Nat)) (c : Nat) : Nat → Nat → Prop
  | 0, p => p = 0
  | k + 1, p => (Bg N v s R c (k + 1) true ∧ p = k + 1) ∨ (Bg N v s R c (k + 1) false ∧ Pfx N v s R c k p)
theorem Pfx.unique {N : Nat → Nat → Nat → Nat} {v s : ByteArray} {R : List (Nat × Nat)} {c : Nat} : ∀ k p p', Pfx N v s R c k p → Pfx N v s R c k p' → p = p'
  | 0, _, _, h, h' => by simp only [Pfx] at h h'; omega
  | k + 1, p, p', h, h' => by
    simp only [Pfx] at h h'
    rcases h with ⟨h1, rfl⟩ | ⟨h1, h2⟩ <;> rcases h' with ⟨g1, rfl⟩ | ⟨g1, g2⟩
    · rfl
    · exact absurd (h1.unique g1 (by omega)) (by decide)
    · exact absurd (h1.unique g1 (by omega)) (by decide)
    · exact Pfx.unique k p p' h2 g2
end Pu
end Go.Proofs.YtdbjkcpjpmglkaaDoor
