import Derived.Test.YthmbbiahnfpoeaaDoorPart
import Derived.Test.YthmbbiahnfpoeaaDoorFrom
import Derived.Test.YthmbbiahnfpoeaaDoorRefFruit
namespace Go.Proofs.YthmbbiahnfpoeaaDoor
namespace Pu

theorem ways_gt {N : Nat → Nat → Nat → Nat} {v s : ByteArray} {i j : Nat} (h : j < i) : ∀ k a, ways N v s k a i j = 0
  | 0, _ => by simp only [ways]; rw [if_neg (by omega)]
  | k + 1, a => by
    simp only [ways]
    split
    · rw [if_neg (by omega)]
    · rw [show j + 1 - i = 0 by omega]; rfl
theorem phiL_gt {N : Nat → Nat → Nat → Nat} {v s : ByteArray} {c i j : Nat} (h : j < i) : ∀ R, phiL N v s c i j R 0 = 0
  | [] => rfl
  | r :: R => by
    simp only [phiL]
    rw [ways_gt h, show min 2 (0 + 0) = 0 by omega, ite_self]
    exact phiL_gt h R
theorem lvl_gt {v s : ByteArray} {R : List (Nat × Nat)} {c i j : Nat} (h : j < i) : ∀ m, lvl v s R m c i j = 0
  | 0 => rfl
  | _ + 1 => phiL_gt h R
theorem phiL_other {N : Nat → Nat → Nat → Nat} {v s : ByteArray} {c i j : Nat} (hc : ¬ (65 ≤ c ∧ c ≤ 90)) : ∀ R, Good s R → phiL N v s c i j R 0 = 0
  | [], _ => rfl
  | r :: R, h => by
    simp only [phiL]
    have := h r List.mem_cons_self
    rw [if_neg (fun e => hc (by rw [← e]; exact ⟨this.1, this.2.1⟩))]
    exact phiL_other hc R (fun x hx => h x (List.mem_cons_of_mem r hx))
theorem lvl_other {v s : ByteArray} {R : List (Nat × Nat)} {c i j : Nat} (hc : ¬ (65 ≤ c ∧ c ≤ 90)) (hG : Good s R) : ∀ m, lvl v s R m c i j = 0
  | 0 => rfl
  | _ + 1 => phiL_other hc R hG

def sumTo (f : Nat → Nat) : Nat → Nat
  | 0 => 0
  | n + 1 => sumTo f n + f n
theorem sumTo_le {f g : Nat → Nat} : ∀ n, (∀ k, k < n → f k ≤ g k) → sumTo f n ≤ sumTo g n
  | 0, _ => Nat.le_refl _
  | n + 1, h => Nat.add_le_add (sumTo_le n fun k hk => h k (by omega)) (h n (by omega))
theorem sumTo_lt {f g : Nat → Nat} : ∀ n, (∀ k, k < n → f k ≤ g k) → (∃ k, k < n ∧ f k < g k) → sumTo f n < sumTo g n
  | 0, _, ⟨_, h, _⟩ => by omega
  | n + 1, h, ⟨k, hk, hlt⟩ => by
    have a := sumTo_le n fun k hk => h k (by omega)
    have b := h n (by omega)
    show sumTo f n + f n < sumTo g n + g n
    by_cases e : k = n
    · subst e; omega
    · have := sumTo_lt n (fun k hk => h k (by omega)) ⟨k, by omega, hlt⟩
      omega
def tot (N : Nat → Nat → Nat → Nat) (n : Nat) : Nat := sumTo (fun k => sumTo (fun i => sumTo (fun j => N (65 + k) i j) (n + 1)) (n + 1)) 26
theorem tot_le {N M : Nat → Nat → Nat → Nat} {n : Nat} (h : ∀ c i j, N c i j ≤ M c i j) : tot N n ≤ tot M n :=
  sumTo_le _ fun _ _ => sumTo_le _ fun _ _ => sumTo_le _ fun _ _ => h _ _ _
theorem tot_lt {N M : Nat → Nat → Nat → Nat} {n k i j : Nat} (h : ∀ c i j, N c i j ≤ M c i j) (hk : k < 26) (hi : i ≤ n) (hj : j ≤ n) (hl : N (65 + k) i j < M (65 + k) i j) : tot N n < tot M n :=
  sumTo_lt _ (fun _ _ => sumTo_le _ fun _ _ => sumTo_le _ fun _ _ => h _ _ _) ⟨k, hk, sumTo_lt _ (fun _ _ => sumTo_le _ fun _ _ => h _ _ _) ⟨i, by omega, sumTo_lt _ (fun _ _ => h _ _ _) ⟨j, by omega, hl⟩⟩⟩
/-- What is left till all counts are two. -/
def room (v s : ByteArray) (R : List (Nat × Nat)) (n m : Nat) : Nat := tot (fun _ _ _ => 2) n - tot (lvl v s R m) n
theorem room_le (v s : ByteArray) (R : List (Nat × Nat)) (n m : Nat) : room v s R n (m + 1) ≤ room v s R n m := by
  have := tot_le (n := n) (lvl_succ v s R m)
  unfold room; omega
theorem room_lt {v s : ByteArray} {R : List (Nat × Nat)} {n m k i j : Nat} (hk : k < 26) (hi : i ≤ n) (hj : j ≤ n) (hne : lvl v s R (m + 1) (65 + k) i j ≠ lvl v s R m (65 + k) i j) : room v s R n (m + 1) < room v s R n m := by
  have a := tot_lt (n := n) (lvl_succ v s R m) hk hi hj (by have := lvl_succ v s R m (65 + k) i j; omega)
  have b := tot_le (n := n) (lvl_two v s R (m + 1))
  unfold room; omega

/-- What the comparison has seen when it stands at (k, i, j). -/
def Seen (N M : Nat → Nat → Nat → Nat) (n k i j : Nat) (b : Bool) : Prop :=
  (b = true ∧ ∃ k' i' j', k' < 26 ∧ i' ≤ n ∧ j' ≤ n ∧ M (65 + k') i' j' ≠ N (65 + k') i' j') ∨
  (b = false ∧ ∀ k' i' j', k' < 26 → i' ≤ j' → j' ≤ n → (k' < k ∨ (k' = k ∧ (i' < i ∨ (i' = i ∧ j' < j)))) → M (65 + k') i' j' = N (65 + k') i' j')
theorem Seen.start {N M : Nat → Nat → Nat → Nat} {n : Nat} : Seen N M n 0 0 0 false := .inr ⟨rfl, fun _ _ _ _ _ _ h => by omega⟩
theorem Seen.same {N M : Nat → Nat → Nat → Nat} {n k i j : Nat} {b : Bool} (h : Seen N M n k i j b) (he : M (65 + k) i j = N (65 + k) i j) : Seen N M n k i (j + 1) b := by
  rcases h with h | ⟨hb, h⟩
  · exact .inl h
  · refine .inr ⟨hb, fun k' i' j' h1 h2 h3 h4 => ?_⟩
    by_cases e : k' = k ∧ i' = i ∧ j' = j
    · obtain ⟨rfl, rfl, rfl⟩ := e; exact he
    · exact h k' i' j' h1 h2 h3 (by omega)
theorem Seen.diff {N M : Nat → Nat → Nat → Nat} {n k i j : Nat} (hk : k < 26) (hi : i ≤ n) (hj : j ≤ n) (he : M (65 + k) i j ≠ N (65 + k) i j) : Seen N M n k i (j + 1) true := .inl ⟨rfl, k, i, j, hk, hi, hj, he⟩
theorem Seen.row {N M : Nat → Nat → Nat → Nat} {n k i : Nat} {b : Bool} (h : Seen N M n k i (n + 1) b) : Seen N M n k (i + 1) (i + 1) b := by
  rcases h with h | ⟨hb, h⟩
  · exact .inl h
  · exact .inr ⟨hb, fun k' i' j' h1 h2 h3 h4 => h k' i' j' h1 h2 h3 (by omega)⟩
theorem Seen.tbl {N M : Nat → Nat → Nat → Nat} {n k : Nat} {b : Bool} (h : Seen N M n k (n + 1) (n + 1) b) : Seen N M n (k + 1) 0 0 b := by
  rcases h with h | ⟨hb, h⟩
  · exact .inl h
  · exact .inr ⟨hb, fun k' i' j' h1 h2 h3 h4 => h k' i' j' h1 h2 h3 (by omega)⟩
theorem cnt_of_seen {v s : ByteArray} {R : List (Nat × Nat)} {n m : Nat} (hG : Good s R) (h : Seen (lvl v s R m) (lvl v s R (m + 1)) n 26 0 0 false) : Cnt v s R n (lvl v s R (m + 1)) := by
  rcases h with ⟨h, _⟩ | ⟨_, h⟩
  · cases h
  have key : ∀ c i j, i ≤ j → j ≤ n → lvl v s R (m + 1) c i j = lvl v s R m c i j := by
    intro c i j hi hj
    by_cases hc : 65 ≤ c ∧ c ≤ 90
    · have := h (c - 65) i j (by omega) hi hj (by omega)
      rwa [show 65 + (c - 65) = c by omega] at this
    · rw [lvl_other hc hG, lvl_other hc hG]
  refine ⟨⟨m + 1, fun _ _ _ _ _ => rfl⟩, fun c i j hi hj => ?_⟩
  show phi v s R (lvl v s R (m + 1)) c i j = phi v s R (lvl v s R m) c i j
  exact phi_congr fun c' i' j' h1 h2 h3 => key c' i' j' h2 (by omega)
theorem room_seen {v s : ByteArray} {R : List (Nat × Nat)} {n m : Nat} {b : Bool} (h : Seen (lvl v s R m) (lvl v s R (m + 1)) n 26 0 0 b) : 2 * room v s R n (m + 1) + b.toNat < 2 * room v s R n m + 1 := by
  rcases h with ⟨rfl, k, i, j, hk, hi, hj, hne⟩ | ⟨rfl, _⟩
  · have := room_lt hk hi hj hne
    show _ + 1 < _; omega
  · have := room_le v s R n m
    show _ + 0 < _; omega
theorem part_lvl {v s : ByteArray} {R : List (Nat × Nat)} {m : Nat} (c i j : Nat) : part (lvl v s R m) v s R R.length 0 0 c i j = lvl v s R (m + 1) c i j := by
  by_cases h : i ≤ j
  · exact part_done c i j h
  · rw [lvl_gt (by omega)]; unfold part; rw [if_neg h]
end Pu
open Go.RowKit

/-- A chart, and the cube of the next counts beside it. -/
structure Mid (w V : World) (cb top base top2 n : Nat) (lv : Value) (v : ByteArray) (N M : Nat → Nat → Nat → Nat) : Prop where
  ch : ChartAt V cb top base n lv v N
  nx : Cube V top2 (top2 + 1) 26 n (fun k i j => M (65 + k) i j)
  bel : Below w.heap.size w V
  cbw : w.heap.size ≤ cb
  far : cb < top2 ∧ top < top2 ∧ base + 26 * (n + 2) ≤ top2
section
variable {w V : World} {cb top base top2 n : Nat} {lv : Value} {v : ByteArray} {N M : Nat → Nat → Nat → Nat}
theorem Mid.drewN (h : Mid w V cb top base top2 n lv v N M) (q : Nat) : Mid w (V.drewN q) cb top base top2 n lv v N M :=
  ⟨h.ch.drewN q, h.nx.below (Go.below_drewN (Below.refl _ _) q), Go.below_drewN h.bel q, h.cbw, h.far⟩
theorem Mid.congr (h : Mid w V cb top base top2 n lv v N M) {M' : Nat → Nat → Nat → Nat} (he : ∀ c i j, i ≤ n → j ≤ n → M c i j = M' c i j) : Mid w V cb top base top2 n lv v N M' :=
  ⟨h.ch, h.nx.congr fun _ i j _ hi hj => he _ i j hi hj, h.bel, h.cbw, h.far⟩
theorem Mid.set (h : Mid w V cb top base top2 n lv v N M) {c i j x : Nat} (h1 : 65 ≤ c) (h2 : c ≤ 90) (hi : i ≤ n) (hj : j ≤ n) :
    Mid w (V.setCell ⟨tb (top2 + 1) n (c - 65) + (i + 1), j, none⟩ (.int .i64 x)) cb top base top2 n lv v N (fun c' i' j' => if c' = c ∧ i' = i ∧ j' = j then x else M c' i' j') := by
  have hge := tb_ge (top2 + 1) n (c - 65)
  obtain ⟨f1, f2, f3⟩ := h.far
  have ho : ∀ b, b ≤ top2 → (V.setCell ⟨tb (top2 + 1) n (c - 65) + (i + 1), j, none⟩ (.int .i64 x)).heap[b]? = V.heap[b]? := fun b hb => Below.heap_setCell _ _ _ _ (by show b ≠ tb (top2 + 1) n (c - 65) + (i + 1); omega)
  refine ⟨⟨by rw [ho _ (by omega)]; exact h.ch.blk, h.ch.cube.kept fun b hb => ho b (by omega)⟩, ?_, h.bel.setCell (by have := h.cbw; show w.heap.size ≤ tb (top2 + 1) n (c - 65) + (i + 1); omega) _, h.cbw, h.far⟩
  refine (h.nx.set (k := c - 65) (v := x) (by omega) hi hj).congr fun k i' j' hk _ _ => ?_
  unfold setM
  by_cases e : k = c - 65
  · subst e
    simp only [show 65 + (c - 65) = c by omega, true_and]
  · rw [if_neg (fun h => e h.1), if_neg (fun h => e (by omega))]
end
theorem Cube.base_lt {w : World} {top base A n : Nat} {M : Nat → Nat → Nat → Nat} (h : Cube w top base A n M) (hA : 0 < A) : base + A * (n + 2) ≤ w.heap.size := by
  obtain ⟨cs, h1, _⟩ := h.row (A - 1) n (by omega) (Nat.le_refl _)
  have := lt_heap h1
  unfold tb at this
  have e : A * (n + 2) = (A - 1) * (n + 2) + (n + 2) := by
    conv => lhs; rw [show A = (A - 1) + 1 by omega, Nat.add_mul]
    omega
  omega
theorem ChartAt.lts {w : World} {cb top base n : Nat} {lv : Value} {v : ByteArray} {N : Nat → Nat → Nat → Nat} (h : ChartAt w cb top base n lv v N) : cb < w.heap.size ∧ top < w.heap.size ∧ base + 26 * (n + 2) ≤ w.heap.size := by
  refine ⟨lt_heap h.blk, ?_, h.cube.base_lt (by omega)⟩
  obtain ⟨cs, h1, _⟩ := h.cube.top
  exact lt_heap h1
theorem Mid.start {w V V' : World} {cb top base n : Nat} {lv : Value} {v : ByteArray} {N : Nat → Nat → Nat → Nat} (h : ChartAt V cb top base n lv v N) (hb : Below w.heap.size w V) (hcb : w.heap.size ≤ cb) (hb' : Below V.heap.size V V') (hc : Cube V' V.heap.size (V.heap.size + 1) 26 n (fun _ _ _ => 0)) :
    Mid w V' cb top base V.heap.size n lv v N (fun _ _ _ => 0) := ⟨h.below hb', hc, hb.trans (hb'.mono hb.size), hcb, h.lts⟩
/-- The next counts put into the chart. -/
theorem Mid.swap {w V : World} {cb top base top2 n : Nat} {lv : Value} {v : ByteArray} {N M : Nat → Nat → Nat → Nat} (h : Mid w V cb top base top2 n lv v N M) :
    ChartAt (V.setCell ⟨cb, 2, none⟩ (.slice (some ⟨top2, 0, none⟩) 26 26)) cb top2 (top2 + 1) n lv v M := by
  obtain ⟨f1, f2, f3⟩ := h.far
  refine ⟨?_, h.nx.kept fun b hb => Below.heap_setCell _ _ _ _ (by show b ≠ cb; omega)⟩
  show (V.heap.modify cb _)[cb]? = _
  rw [Array.getElem?_modify, if_pos rfl, h.ch.blk]; rfl
end Go.Proofs.YthmbbiahnfpoeaaDoor
