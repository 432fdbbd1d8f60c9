import Derived.Test.YthmbbiahnfpoeaaDoorTrees
import Derived.Test.YthmbbiahnfpoeaaDoorFertile
import Derived.WalkKit
import Derived.WalkSpells
import Derived.WalkSmall
import Derived.BigQuiet
import Derived.Deep.QuietTactic
import Derived.Deep.RegionWith
import Derived.Deep.LoopGhost
import Derived.Deep.RegionHeld3
import Derived.Deep.DeepCutAuto
namespace Go.Proofs.YthmbbiahnfpoeaaDoor
open Go.RowKit

namespace Pu
/-- In how many ways a piece is made of one sign. -/
def sgn (N : Nat → Nat → Nat → Nat) (v : ByteArray) (c i j : Nat) : Nat := if nm c = true then N c i j else if j = i + 1 ∧ byt v i = c then 1 else 0
/-- In how many ways it is made of k signs from place a on, as the program counts them. -/
def rowsP (N : Nat → Nat → Nat → Nat) (v s : ByteArray) : Nat → Nat → Nat → Nat → Nat
  | 0, _, i, j => if i = j then 1 else 0
  | 1, a, i, j => sgn N v (byt s a) i j
  | k + 2, a, i, j => acc (fun q => sgn N v (byt s a) i q * rowsP N v s (k + 1) (a + 1) q j) (j + 1 - i) i 0
theorem acc_zero {f : Nat → Nat} : ∀ m k n, n ≤ 2 → (∀ c, k ≤ c → c < k + m → f c = 0) → acc f m k n = n
  | 0, _, _, _, _ => rfl
  | m + 1, k, n, hn, h => by
    show acc f m (k + 1) (min 2 (n + f k)) = n
    rw [h k (Nat.le_refl _) (by omega), show min 2 (n + 0) = n by omega]
    exact acc_zero m (k + 1) n hn (fun c h1 h2 => h c (by omega) (by omega))
theorem acc_single {f : Nat → Nat} {q : Nat} : ∀ m k, k ≤ q → q < k + m → (∀ c, k ≤ c → c < k + m → c ≠ q → f c = 0) → acc f m k 0 = min 2 (f q)
  | 0, _, _, _, _ => by omega
  | m + 1, k, h1, h2, h => by
    show acc f m (k + 1) (min 2 (0 + f k)) = min 2 (f q)
    by_cases e : k = q
    · subst e
      rw [acc_zero m (k + 1) _ (Nat.min_le_left _ _) (fun c g1 g2 => h c (by omega) (by omega) (by omega)), Nat.zero_add]
    · rw [h k (Nat.le_refl _) (by omega) e, show min 2 (0 + 0) = 0 by omega]
      exact acc_single m (k + 1) (by omega) (by omega) (fun c g1 g2 g3 => h c (by omega) (by omega) g3)
theorem nm_not_lt {c : Nat} (h : nm c = true) : lt c = false := by
  simp only [nm, Bool.and_eq_true, decide_eq_true_eq] at h
  simp only [lt, Bool.and_eq_false_iff, decide_eq_false_iff_not]; omega
theorem sgn_le {N : Nat → Nat → Nat → Nat} (hN : ∀ c i j, N c i j ≤ 2) (v : ByteArray) (c i j : Nat) : sgn N v c i j ≤ 2 := by
  unfold sgn; split
  · exact hN _ _ _
  · split <;> omega
theorem rowsP_le {N : Nat → Nat → Nat → Nat} (hN : ∀ c i j, N c i j ≤ 2) (v s : ByteArray) : ∀ k a i j, rowsP N v s k a i j ≤ 2
  | 0, _, i, j => by simp only [rowsP]; split <;> omega
  | 1, a, i, j => sgn_le hN v _ i j
  | k + 2, a, i, j => acc_le _ _ _ _ (by omega)
theorem ways_one {N : Nat → Nat → Nat → Nat} (hN : ∀ c i j, N c i j ≤ 2) {v s : ByteArray} {a i j : Nat} (hij : i ≤ j) (hs : sg (byt s a) = true) : ways N v s 1 a i j = sgn N v (byt s a) i j := by
  simp only [ways, sgn]
  by_cases hn : nm (byt s a) = true
  · rw [if_neg (by rw [nm_not_lt hn]; decide), if_pos hn, acc_single (q := j) _ _ hij (by omega) (fun c h1 h2 h3 => by simp [h3]), if_pos rfl, Nat.mul_one]
    have := hN (byt s a) i j
    omega
  · have hl : lt (byt s a) = true := by
      simp only [sg, Bool.or_eq_true] at hs
      exact hs.resolve_left hn
    rw [if_pos hl, if_neg hn]
    by_cases h : j = i + 1 ∧ byt v i = byt s a
    · rw [if_pos ⟨by omega, h.2⟩, if_pos h.1.symm, if_pos h]
    · rw [if_neg h]
      split
      · rename_i h2
        rw [if_neg (fun e => h ⟨e.symm, h2.2⟩)]
      · rfl
theorem rowsP_eq {N : Nat → Nat → Nat → Nat} (hN : ∀ c i j, N c i j ≤ 2) {v s : ByteArray} : ∀ k a i j, i ≤ j → (∀ a', a ≤ a' → a' < a + k → sg (byt s a') = true) → rowsP N v s k a i j = ways N v s k a i j
  | 0, _, _, _, _, _ => rfl
  | 1, a, i, j, hij, h => (ways_one hN hij (h a (Nat.le_refl _) (by omega))).symm
  | k + 2, a, i, j, hij, h => by
    have ih := fun q (h1 : q ≤ j) => rowsP_eq hN (v := v) (s := s) (k + 1) (a + 1) q j h1 (fun a' g1 g2 => h a' (by omega) (by omega))
    have hs := h a (Nat.le_refl _) (by omega)
    show acc (fun q => sgn N v (byt s a) i q * rowsP N v s (k + 1) (a + 1) q j) (j + 1 - i) i 0 = _
    rw [acc_congr (g := fun q => sgn N v (byt s a) i q * ways N v s (k + 1) (a + 1) q j) _ _ _ (fun c h1 h2 => by rw [ih c (by omega)])]
    conv => rhs; unfold ways
    by_cases hn : nm (byt s a) = true
    · rw [if_neg (by rw [nm_not_lt hn]; decide)]
      refine acc_congr _ _ _ (fun c h1 h2 => ?_)
      simp only [sgn]
      rw [if_pos hn]
    · have hl : lt (byt s a) = true := by
        simp only [sg, Bool.or_eq_true] at hs
        exact hs.resolve_left hn
      rw [if_pos hl]
      have hsg : ∀ q, sgn N v (byt s a) i q = if q = i + 1 ∧ byt v i = byt s a then 1 else 0 := fun q => by simp only [sgn]; rw [if_neg hn]
      by_cases hh : i < j ∧ byt v i = byt s a
      · rw [if_pos hh, acc_single (q := i + 1) _ _ (by omega) (by omega) (fun c h1 h2 h3 => by simp only [hsg]; rw [if_neg (fun e => h3 e.1), Nat.zero_mul])]
        show min 2 (sgn N v (byt s a) i (i + 1) * ways N v s (k + 1) (a + 1) (i + 1) j) = _
        rw [hsg, if_pos ⟨rfl, hh.2⟩, Nat.one_mul]
        have := ways_le N v s (k + 1) (a + 1) (i + 1) j
        omega
      · rw [if_neg hh]
        refine acc_zero _ _ _ (by omega) (fun c h1 h2 => ?_)
        simp only [hsg]
        rw [if_neg (fun e => hh ⟨by omega, e.2⟩), Nat.zero_mul]
end Pu

/-- The program's chart in memory. -/
structure ProgAt (w : World) (pb top base q g cap B : Nat) (v s : ByteArray) (R : List (Nat × Nat)) (L : List Nat) (N : Nat → Nat → Nat → Nat) : Prop where
  blk : w.heap[pb]? = some (.cells #[.pointer (some ⟨q, 0, none⟩), .string v, .slice (some ⟨top, 0, none⟩) L.length L.length] 98 (0, 0))
  cube : Cube w top base L.length v.size (fun k i j => N (L.getD k 0) i j)
  gr : GrAt w q g cap B s R L
  gl : g < w.heap.size
  Bl : B < w.heap.size
section
variable {w w' : World} {pb top base q g cap B : Nat} {v s : ByteArray} {R : List (Nat × Nat)} {L : List Nat} {N : Nat → Nat → Nat → Nat}
theorem ProgAt.below (h : ProgAt w pb top base q g cap B v s R L N) (hb : Below w.heap.size w w') : ProgAt w' pb top base q g cap B v s R L N :=
  ⟨by rw [hb.block _ (lt_heap h.blk)]; exact h.blk, h.cube.below hb, h.gr.grown (below_grown hb none) (by simp) (by simp) (by simp), Nat.lt_of_lt_of_le h.gl hb.size, Nat.lt_of_lt_of_le h.Bl hb.size⟩
theorem ProgAt.drewN (h : ProgAt w pb top base q g cap B v s R L N) (m : Nat) : ProgAt (w.drewN m) pb top base q g cap B v s R L N := h.below (Go.below_drewN (Below.refl _ _) m)
theorem ProgAt.c0 (h : ProgAt w pb top base q g cap B v s R L N) : w.cell? ⟨pb, 0, none⟩ = some (.pointer (some ⟨q, 0, none⟩)) := by have := h.blk; simp [World.cell?, this]
theorem ProgAt.c1 (h : ProgAt w pb top base q g cap B v s R L N) : w.cell? ⟨pb, 1, none⟩ = some (.string v) := by have := h.blk; simp [World.cell?, this]
theorem ProgAt.c2 (h : ProgAt w pb top base q g cap B v s R L N) : w.cell? ⟨pb, 2, none⟩ = some (.slice (some ⟨top, 0, none⟩) L.length L.length) := by have := h.blk; simp [World.cell?, this]
end
theorem getD_idxOf {L : List Nat} {c : Nat} (h : c ∈ L) : L.getD (L.idxOf c) 0 = c := by
  have hl := idx_lt h
  rw [List.getD_eq_getElem?_getD, List.getElem?_eq_getElem hl]
  simp

set_option maxRecDepth 100000 in
set_option maxHeartbeats 1000000 in
theorem sign_any (pb top base q g cap B : Nat) (v s : ByteArray) (R : List (Nat × Nat)) (L : List Nat) (N : Nat → Nat → Nat → Nat) (c i j : Nat) (w : World) (hv : v.size ≤ 24) (h : ProgAt w pb top base q g cap B v s R L N) (hc : c < 256) (hL : Pu.nm c = true → c ∈ L) (hij : i ≤ j) (hj : j ≤ v.size) :
    Calls Tryd.prog 45 #[.pointer (some ⟨pb, 0, none⟩), .int .u8 c, .int .i64 i, .int .i64 j] w fun e w' => e = .returned (.int .i64 ↑(Pu.sgn N v c i j)) ∧ ∃ d, w' = w.drewN d := by
  have c0 := h.c0
  have c1 := h.c1
  have c2 := h.c2
  have gN := fun w => gName_any c w
  by_cases hnm : Pu.nm c = true
  · have hcL := hL hnm
    have hix := idx_lt hcL
    have d1 := h.cube.c1 hix
    have d2 := h.cube.c2 hix (show i ≤ v.size by omega)
    have d3 := h.cube.c3 hix (show i ≤ v.size by omega) hj
    simp only [getD_idxOf hcL] at d3
    have hval : Aside (Pu.sgn N v c i j = N c i j) := by show _ = _; simp only [Pu.sgn]; rw [if_pos hnm]
    rw [hnm] at gN
    have GN := hide gN
    have HNB := hide (fun n => Number_any q g cap B s R L c (w.drewN n) (h.gr.drewN n) hc hcL)
    generalize L.idxOf c = m at *
    generalize tb base v.size m = tk at *
    generalize N c i j = x at *
    have b1 : (0 : Int) ≤ (i : Int) := by omega
    have b2 : (i : Int) < (v.size : Int) + 1 := by omega
    have b3 : (0 : Int) ≤ (j : Int) := by omega
    have b4 : (j : Int) < (v.size : Int) + 1 := by omega
    have b5 : (0 : Int) ≤ (m : Int) := by omega
    have b6 : (m : Int) < (L.length : Int) := by omega
    clear h hnm gN hL hcL
    go_enter Tryd.func45, Tryd.ntmps45
    go_wp2_with (go_at_call 59; refine (GN.out _).mono ?_; rintro e w' ⟨rfl, rfl⟩)
    go_quiet ((go_at_call 62; refine Calls.quiet_of_same (HNB.out _)))
    go_wp2_with fail
    go_ret
    exact ⟨ret_int (by rw [hval.out]), _, rfl⟩
  · have hn0 : Pu.nm c = false := by simpa using hnm
    rw [hn0] at gN
    have GN := hide gN
    by_cases hj1 : j = i + 1
    · have hiv : i < v.size := by omega
      have b1 : (0 : Int) ≤ (i : Int) := by omega
      have b2 : (i : Int) < (v.size : Int) := by omega
      have e0 : ((j : Int) == (i : Int) + 1) = true := by rw [hj1]; simp
      by_cases hvc : Pu.byt v i = c
      · have e1 : ((v[i].toNat : Int) == (c : Int)) = true := by rw [Pu.byt_eq hiv, hvc]; exact beq_self_eq_true _
        have hval : Aside (Pu.sgn N v c i j = 1) := by show _ = _; simp only [Pu.sgn]; rw [if_neg hnm, if_pos ⟨hj1, hvc⟩]
        clear h hnm gN hL hn0 hvc
        go_enter Tryd.func45, Tryd.ntmps45
        go_wp2_with (go_at_call 59; refine (GN.out _).mono ?_; rintro e w' ⟨rfl, rfl⟩)
        go_ret
        exact ⟨ret_int (by rw [hval.out]; rfl), 0, rfl⟩
      · have e1 : ((v[i].toNat : Int) == (c : Int)) = false := by rw [Pu.byt_eq hiv]; simp; omega
        have hval : Aside (Pu.sgn N v c i j = 0) := by show _ = _; simp only [Pu.sgn]; rw [if_neg hnm, if_neg (fun h => hvc h.2)]
        clear h hnm gN hL hn0 hvc
        go_enter Tryd.func45, Tryd.ntmps45
        go_wp2_with (go_at_call 59; refine (GN.out _).mono ?_; rintro e w' ⟨rfl, rfl⟩)
        go_ret
        exact ⟨ret_int (by rw [hval.out]; rfl), 0, rfl⟩
    · have e0 : ((j : Int) == (i : Int) + 1) = false := by simp; omega
      have hval : Aside (Pu.sgn N v c i j = 0) := by show _ = _; simp only [Pu.sgn]; rw [if_neg hnm, if_neg (fun h => hj1 h.1)]
      clear h hnm gN hL hn0 hj1
      go_enter Tryd.func45, Tryd.ntmps45
      go_wp2_with (go_at_call 59; refine (GN.out _).mono ?_; rintro e w' ⟨rfl, rfl⟩)
      go_ret
      exact ⟨ret_int (by rw [hval.out]; rfl), 0, rfl⟩
end Go.Proofs.YthmbbiahnfpoeaaDoor
