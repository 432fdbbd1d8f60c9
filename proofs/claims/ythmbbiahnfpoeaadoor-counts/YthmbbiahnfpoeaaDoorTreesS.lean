import Derived.Test.YthmbbiahnfpoeaaDoorTrees
import Derived.Test.YthmbbiahnfpoeaaDoorFertile
import Derived.Test.YthmbbiahnfpoeaaDoorFill
namespace Go.Proofs.YthmbbiahnfpoeaaDoor
namespace Pu
theorem nodup_len : ∀ (l m : List Nat), l.Nodup → (∀ x ∈ l, x ∈ m) → l.length ≤ m.length
  | [], _, _, _ => Nat.zero_le _
  | x :: l, m, hd, hs => by
    have hx := hs x List.mem_cons_self
    have hd' := List.nodup_cons.1 hd
    have ih := nodup_len l (m.erase x) hd'.2 (fun y hy => (List.mem_erase_of_ne (fun (e : y = x) => hd'.1 (e ▸ hy))).2 (hs y (List.mem_cons_of_mem x hy)))
    have := List.length_erase_of_mem hx
    have := List.length_pos_of_mem hx
    simp only [List.length_cons]
    omega
theorem lvl_in {v s : ByteArray} {R : List (Nat × Nat)} {p c i j : Nat} (h : 1 ≤ lvl v s R p c i j) : c ∈ dist s R [] := by
  refine Decidable.byContradiction fun hc => ?_
  have h0 : lvl v s R p c i j = 0 := by
    cases p with
    | zero => rfl
    | succ p => exact phiL_notin R 0 (fun r hr e => hc (e ▸ mem_names (has_of hr)))
  omega
theorem filter_not_len (F : Nat → Bool) : ∀ l : List Nat, (l.filter (fun k => !F k)).length + (l.filter F).length = l.length
  | [] => rfl
  | x :: l => by
    have ih := filter_not_len F l
    simp only [List.filter_cons, List.length_cons]
    cases F x <;> simp <;> omega
theorem kin_le8 {v s : ByteArray} {R : List (Nat × Nat)} (hn8 : R.length ≤ 8) (p i j : Nat) : kin v s R p i j ≤ 8 := by
  have h1 := filter_not_len (fun k => decide (1 ≤ lvl v s R p (65 + k) i j)) (List.range 26)
  have h2 : (((List.range 26).filter (fun k => decide (1 ≤ lvl v s R p (65 + k) i j))).map (65 + ·)).length ≤ (dist s R []).length := by
    refine nodup_len _ _ ?_ (fun x hx => ?_)
    · exact List.Pairwise.map _ (fun a b h e => h (by omega)) (List.Pairwise.filter _ List.nodup_range)
    · obtain ⟨k, hk, rfl⟩ := List.mem_map.1 hx
      have := (List.mem_filter.1 hk).2
      exact lvl_in (by simpa using this)
  rw [List.length_map] at h2
  have h3 := names_len s R
  simp only [List.length_range] at h1
  show 26 - ((List.range 26).filter (fun k => !decide (1 ≤ lvl v s R p (65 + k) i j))).length ≤ 8
  omega
theorem much_8 : much 8 = 3280 := by decide
theorem much_le8 {k : Nat} (h : k ≤ 8) : much k ≤ 3280 := by rw [← much_8]; exact much_mono h
section
variable {v s : ByteArray} {R : List (Nat × Nat)} {n : Nat} {N : Nat → Nat → Nat → Nat}
def bnd8 (l k : Nat) : Nat := if l = 0 then much k else 9841 * (16 * (l - 1) + k)
theorem row_bnd8 {M : Nat → Nat → Nat → Nat} {T : Nat → Nat → Nat → List UInt8} {K : Nat → Nat → Nat} (hK : ∀ i j, K i j ≤ 8) {i0 j0 : Nat} (hM : ∀ c i' j', i0 ≤ i' → i' ≤ j' → j' ≤ j0 → M c i' j' ≤ N c i' j')
    (hT : ∀ c i j, i0 ≤ i → i ≤ j → j ≤ j0 → N c i j = 1 → 1 ≤ M c i j → (T c i j).length ≤ bnd8 (j - i) (K i j)) : ∀ k a i j, i0 ≤ i → i ≤ j → j ≤ j0 → ways N v s k a i j = 1 → 1 ≤ ways M v s k a i j →
    (rowT N v s T k a i j).length ≤ if i = j then k * much (K i j) else k * 3280 + 9841 * (16 * (j - i - 1) + K i j)
  | 0, _, i, j, _, _, _, _, _ => by simp [rowT]
  | k + 1, a, i, j, hi, hij, hj, h1, h2 => by
    by_cases hl : lt (byt s a) = true
    · have e1 := way_letter hl (Nat.le_of_eq h1.symm)
      have e2 := way_letter hl h2
      have ih := row_bnd8 hK hM hT k (a + 1) (i + 1) j (by omega) (by omega) hj (by rw [← e1.2.2]; exact h1) (by rw [← e2.2.2]; exact h2)
      simp only [rowT]
      rw [if_pos hl, if_neg (by omega)]
      have b1 := much_le8 (hK (i + 1) j)
      have b2 := hK (i + 1) j
      split at ih
      · have := Nat.mul_le_mul_left k b1; omega
      · rw [show j - i - 1 = (j - (i + 1) - 1) + 1 by omega]
        generalize j - (i + 1) - 1 = x at *
        exact Nat.le_trans ih (Nat.add_le_add (Nat.mul_le_mul_right _ (Nat.le_succ k)) (Nat.mul_le_mul_left _ (by omega)))
    · obtain ⟨q, hq⟩ := one_cut hl h1
      obtain ⟨g1, g2⟩ := hq.lvl hl (fun c i' j' a1 a2 a3 => hM c i' j' (by omega) a2 (by omega)) h2
      have hrow := hq.row hl T
      obtain ⟨q1, q2, q3, q4, _⟩ := hq
      have t := hT (byt s a) i q hi q1 (by omega) q3 g1
      have ih := row_bnd8 hK hM hT k (a + 1) q j (by omega) q2 hj q4 g2
      rw [hrow, List.length_append]
      unfold bnd8 at t
      have b1 := much_le8 (hK i q)
      have b2 := hK i q
      have b3 := much_le8 (hK q j)
      have b4 := hK q j
      have b5 := Nat.mul_le_mul_left k b3
      by_cases e : i = j
      · subst e
        obtain rfl : q = i := by omega
        rw [if_pos (by omega)] at t
        rw [if_pos rfl] at ih ⊢
        rw [Nat.add_mul]; omega
      · rw [if_neg e]
        by_cases e1 : q = i
        · subst e1
          rw [if_pos (by omega)] at t
          rw [if_neg e] at ih
          omega
        · rw [if_neg (by omega)] at t
          by_cases e2 : q = j
          · subst e2
            rw [if_pos rfl] at ih
            omega
          · rw [if_neg e2] at ih
            omega
theorem tree_bnd8 (h : Stands v s R n N) (hG : Good s R) (hS : Signed s R) (hn8 : R.length ≤ 8) : ∀ p c i j, i ≤ j → j ≤ n → N c i j = 1 → 1 ≤ lvl v s R p c i j → (treeT N v s R p c i j).length ≤ bnd8 (j - i) (kin v s R p i j)
  | 0, _, _, _, _, _, _, hp => by simp only [lvl] at hp; omega
  | p + 1, c, i, j, hi, hj, hN, hp => by
    by_cases h0 : lvl v s R p c i j = 0
    · have hc : 65 ≤ c ∧ c ≤ 90 := by
        refine Decidable.byContradiction fun hc => ?_
        rw [lvl_other hc hG] at hp; omega
      have hk := kin_lt hc.1 hc.2 h0 hp
      obtain ⟨r, hr⟩ := one_rule (by rw [h.fix c i j hi hj]; exact hN)
      have hb := row_bnd8 (K := kin v s R p) (fun i j => kin_le8 hn8 p i j) (h.le p hj) (T := treeT N v s R p) (i0 := i) (j0 := j) (fun c i' j' a1 a2 a3 b1 b2 => tree_bnd8 h hG hS hn8 p c i' j' a2 (by omega) b1 b2) _ _ i j (Nat.le_refl _) hi (Nat.le_refl _) hr.name.2 (hr.lvl' (h.le p hj) hp)
      have h3 : (R[r]'hr.1).2 ≤ (R[r]'hr.1).1 + 5 := (hS _ (List.getElem_mem hr.1)).1
      rw [hr.tree, List.length_cons]
      have h3' : (R[r]'hr.1).2 - ((R[r]'hr.1).1 + 2) ≤ 3 := by omega
      show (rowT N v s (treeT N v s R p) ((R[r]'hr.1).2 - ((R[r]'hr.1).1 + 2)) ((R[r]'hr.1).1 + 2) i j).length + 1 ≤ _
      unfold bnd8
      split at hb
      · rw [if_pos (by omega)]
        have b := much_mono hk
        have b2 := Nat.mul_le_mul_right (much (kin v s R p i j)) h3'
        have e : much (kin v s R p i j + 1) = 1 + 3 * much (kin v s R p i j) := rfl
        omega
      · rw [if_neg (by omega)]
        have b2 := Nat.mul_le_mul_right 3280 h3'
        omega
    · rw [tree_succ h p c i j hi hj hN (by omega)]
      have t := tree_bnd8 h hG hS hn8 p c i j hi hj hN (by omega)
      have hm := kin_mono (v := v) (s := s) (R := R) p i j
      unfold bnd8 at t ⊢
      split at t
      · rename_i e; rw [if_pos e]; exact Nat.le_trans t (much_mono hm)
      · rename_i e; rw [if_neg e]; omega
theorem tree_short8 (h : Stands v s R n N) (hG : Good s R) (hS : Signed s R) (hn8 : R.length ≤ 8) (hn : n ≤ 24) {p c i j : Nat} (hi : i ≤ j) (hj : j ≤ n) (hN : N c i j = 1) (hp : 1 ≤ lvl v s R p c i j) : (treeT N v s R p c i j).length ≤ 4000000 := by
  have t := tree_bnd8 h hG hS hn8 p c i j hi hj hN hp
  have b := kin_le8 (v := v) (s := s) hn8 p i j
  unfold bnd8 at t
  split at t
  · have := much_le8 b; omega
  · omega
end
end Pu
end Go.Proofs.YthmbbiahnfpoeaaDoor
