import GoSem.Core.World
namespace Go.Proofs.YthmbbiahnfpoeaaDoor
namespace Pu

/-- The byte at a place, as a number. -/
def byt (s : ByteArray) (i : Nat) : Nat := if h : i < s.size then s[i].toNat else 0
theorem byt_eq {s : ByteArray} {i : Nat} (h : i < s.size) : s[i].toNat = byt s i := by simp [byt, h]
theorem byt_lt (s : ByteArray) (i : Nat) : byt s i < 256 := by
  unfold byt; split
  · exact UInt8.toNat_lt _
  · omega

def nm (n : Nat) : Bool := decide (65 ≤ n) && decide (n ≤ 90)
def lt (n : Nat) : Bool := decide (97 ≤ n) && decide (n ≤ 122)
def sg (n : Nat) : Bool := nm n || lt n

/-- Where a run of at most k signs from j on ends. -/
def signs (s : ByteArray) : Nat → Nat → Nat
  | 0, j => j
  | k + 1, j => if j < s.size ∧ sg (byt s j) = true then signs s k (j + 1) else j

theorem signs_le (s : ByteArray) (k j : Nat) : j ≤ signs s k j ∧ signs s k j ≤ j + k := by
  induction k generalizing j with
  | zero => simp [signs]
  | succ k ih =>
    simp only [signs]; split
    · have := ih (j + 1); omega
    · omega
theorem signs_size (s : ByteArray) (k j : Nat) (h : j ≤ s.size) : signs s k j ≤ s.size := by
  induction k generalizing j with
  | zero => simpa [signs] using h
  | succ k ih =>
    simp only [signs]; split
    · exact ih (j + 1) (by omega)
    · exact h

/-- The rule at i: where it cannot go on, or where it ends. -/
def ruleAt (s : ByteArray) (i : Nat) : Nat × Bool :=
  if i < s.size ∧ nm (byt s i) = true then
    if i + 1 < s.size ∧ byt s (i + 1) = 61 then (signs s 3 (i + 2), true) else (i + 1, false)
  else (i, false)

/-- The rules from i on, k at most: those that are read, where it ends or cannot go on, and which of the two. -/
def parse (s : ByteArray) : Nat → Nat → List (Nat × Nat) × Nat × Bool
  | 0, i => ([], i, false)
  | k + 1, i =>
    if (ruleAt s i).2 = true then
      if (ruleAt s i).1 = s.size then ([(i, (ruleAt s i).1)], (ruleAt s i).1, true)
      else if byt s (ruleAt s i).1 = 59 ∧ k ≠ 0 then
        ((i, (ruleAt s i).1) :: (parse s k ((ruleAt s i).1 + 1)).1, (parse s k ((ruleAt s i).1 + 1)).2)
      else ([], (ruleAt s i).1, false)
    else ([], (ruleAt s i).1, false)

theorem parse_fail {s : ByteArray} {k i : Nat} (h : (ruleAt s i).2 = false) : (parse s (k + 1) i).2 = ((ruleAt s i).1, false) := by simp [parse, h]
theorem parse_end {s : ByteArray} {k i : Nat} (h : (ruleAt s i).2 = true) (he : (ruleAt s i).1 = s.size) : parse s (k + 1) i = ([(i, (ruleAt s i).1)], (ruleAt s i).1, true) := by simp [parse, h, he]
theorem parse_stop {s : ByteArray} {k i : Nat} (h : (ruleAt s i).2 = true) (he : (ruleAt s i).1 ≠ s.size) (hb : ¬ (byt s (ruleAt s i).1 = 59 ∧ k ≠ 0)) : (parse s (k + 1) i).2 = ((ruleAt s i).1, false) := by simp only [parse, h, he, if_true, if_false]; rw [if_neg hb]
theorem parse_next {s : ByteArray} {k i : Nat} (h : (ruleAt s i).2 = true) (he : (ruleAt s i).1 ≠ s.size) (hb : byt s (ruleAt s i).1 = 59) (hk : k ≠ 0) :
    parse s (k + 1) i = ((i, (ruleAt s i).1) :: (parse s k ((ruleAt s i).1 + 1)).1, (parse s k ((ruleAt s i).1 + 1)).2) := by simp [parse, h, he, hb, hk]

/-- Has one of the rules that name? -/
def has (s : ByteArray) (R : List (Nat × Nat)) (c : Nat) : Bool := R.any fun r => byt s r.1 == c

/-- Among n places from j on: the first with a name that no rule has. -/
def badIn (s : ByteArray) (R : List (Nat × Nat)) : Nat → Nat → Option Nat
  | 0, _ => none
  | n + 1, j => if nm (byt s j) = true ∧ has s R (byt s j) = false then some j else badIn s R n (j + 1)
def bad (s : ByteArray) (R : List (Nat × Nat)) : List (Nat × Nat) → Option Nat
  | [] => none
  | r :: l => match badIn s R (r.2 - (r.1 + 2)) (r.1 + 2) with | some k => some k | none => bad s R l

/-- Are all names among n places from j on in the set? -/
def allIn (s : ByteArray) (F : Nat → Bool) : Nat → Nat → Bool
  | 0, _ => true
  | n + 1, j => if nm (byt s j) = true ∧ F (byt s j) = false then false else allIn s F n (j + 1)
def ripe (s : ByteArray) (F : Nat → Bool) (r : Nat × Nat) : Bool := allIn s F (r.2 - (r.1 + 2)) (r.1 + 2)
def add (F : Nat → Bool) (c : Nat) : Nat → Bool := fun d => if d = c then true else F d
def grows (s : ByteArray) (F : Nat → Bool) (r : Nat × Nat) : Bool := ripe s F r && !F (byt s r.1)
/-- One sweep over the rules: the set behind it, and whether it grew. -/
def sweep (s : ByteArray) : List (Nat × Nat) → (Nat → Bool) × Bool → (Nat → Bool) × Bool
  | [], p => p
  | r :: l, p => sweep s l (if grows s p.1 r = true then (add p.1 (byt s r.1), true) else p)
def sweeps (s : ByteArray) (R : List (Nat × Nat)) : Nat → (Nat → Bool)
  | 0 => fun _ => false
  | m + 1 => (sweep s R (sweeps s R m, false)).1
/-- The set at which the sweeps stand still. -/
def Still (s : ByteArray) (R : List (Nat × Nat)) (F : Nat → Bool) : Prop := ∃ m, F = sweeps s R m ∧ sweep s R (F, false) = (F, false)
def barren (s : ByteArray) (F : Nat → Bool) : List (Nat × Nat) → Option Nat
  | [] => none
  | r :: l => if F (byt s r.1) = true then barren s F l else some r.1

theorem sweeps_still {s : ByteArray} {R : List (Nat × Nat)} {F : Nat → Bool} {m : Nat} (hF : F = sweeps s R m) (h : sweep s R (F, false) = (F, false)) : ∀ k, sweeps s R (m + k) = F
  | 0 => hF.symm
  | k + 1 => by
    show (sweep s R (sweeps s R (m + k), false)).1 = F
    rw [sweeps_still hF h k, h]
theorem Still.unique {s : ByteArray} {R : List (Nat × Nat)} {F G : Nat → Bool} (h : Still s R F) (k : Still s R G) : F = G := by
  obtain ⟨m, hm, hF⟩ := h
  obtain ⟨n, hn, hG⟩ := k
  have a := sweeps_still hm hF n
  have b := sweeps_still hn hG m
  rw [Nat.add_comm] at b
  exact a.symm.trans b

/-- What is wrong with a text as a grammar, and where (P3). -/
def Chk (s : ByteArray) (e p : Nat) : Prop :=
  if 50 < s.size then e = 1 ∧ p = 0
  else if (parse s 8 0).2.2 = true then
    match bad s (parse s 8 0).1 (parse s 8 0).1 with
    | some k => e = 3 ∧ p = k
    | none => ∃ F, Still s (parse s 8 0).1 F ∧ match barren s F (parse s 8 0).1 with | some k => e = 4 ∧ p = k | none => e = 0 ∧ p = 0
  else e = 2 ∧ p = (parse s 8 0).2.1

theorem Chk.unique {s : ByteArray} {e p e' p' : Nat} (h : Chk s e p) (k : Chk s e' p') : e = e' ∧ p = p' := by
  unfold Chk at h k
  by_cases h1 : 50 < s.size
  · simp only [h1, if_true] at h k; omega
  · simp only [h1, if_false] at h k
    by_cases h2 : (parse s 8 0).2.2 = true
    · simp only [h2, if_true] at h k
      cases hb : bad s (parse s 8 0).1 (parse s 8 0).1 with
      | some q => simp only [hb] at h k; omega
      | none =>
        simp only [hb] at h k
        obtain ⟨F, hF, h⟩ := h
        obtain ⟨G, hG, k⟩ := k
        obtain rfl := hF.unique hG
        cases hq : barren s F (parse s 8 0).1 with
        | some q => simp only [hq] at h k; omega
        | none => simp only [hq] at h k; omega
    · simp only [h2] at h k
      simp only [Bool.false_eq_true, if_false] at h k
      omega
end Pu
end Go.Proofs.YthmbbiahnfpoeaaDoor
