import Derived.Test.YthmbbiahnfpoeaaDoorProg
import Derived.Test.YthmbbiahnfpoeaaDoorRefRule
import Derived.WalkKit
import Derived.WalkSpells
import Derived.BigQuiet
import Derived.Deep.QuietTactic
import Derived.Deep.RegionWith
import Derived.Deep.LoopGhost
namespace Go.Proofs.YthmbbiahnfpoeaaDoor
open Go.RowKit

theorem rule_at (s : ByteArray) (i j : Nat) (b : Bool) (w : World) (hr : Hid (Pu.ruleAt s i = (j, b))) (hi : i ≤ s.size) (hs : s.size ≤ 50) :
    Calls Tryd.prog 32 #[.string s, .int .i64 i] w fun e w' => ∃ (a : Nat) (t : ByteArray), e = .returned (.tuple #[.agg #[.int .u8 a, .string t, .int .i64 i], .int .i64 j, .bool b]) ∧
      (b = true → a = Pu.byt s i ∧ t = sub s (i + 2) j) ∧ Below w.heap.size w w' := by
  have h := rule_any s i w hi hs
  rw [hr.out] at h
  exact h

/-- The cells of a row of rules. -/
def rcells (s : ByteArray) (R : List (Nat × Nat)) : List Value := R.flatMap fun r => [.int .u8 ↑(Pu.byt s r.1), .string (sub s (r.1 + 2) r.2), .int .i64 r.1]
theorem rcells_snoc (s : ByteArray) (R : List (Nat × Nat)) (i j : Nat) : rcells s (R ++ [(i, j)]) = rcells s R ++ [.int .u8 ↑(Pu.byt s i), .string (sub s (i + 2) j), .int .i64 i] := by simp [rcells]
theorem Tryd.info43 : (Tryd.prog.info? 43).map (fun i => (i.zero, i.size, i.bytes)) = some (some (.agg #[.int .u8 0, .string ⟨#[]⟩, .int .i64 0]), 3, 32) := by kernel_rfl
theorem cell_three_new (w : World) (a b c : Value) (t : TypeId) : ∀ j u, [a, b, c][j]? = some u → (w.alloc (.cells #[a, b, c] t)).cell? ((⟨w.heap.size, 0, none⟩ : Addr).add j) = some u := by
  intro j u hj
  match j, hj with
  | 0, hj => simp at hj; subst hj; simp [Addr.add]
  | 1, hj => simp at hj; subst hj; simp [Addr.add]
  | 2, hj => simp at hj; subst hj; simp [Addr.add]
  | j + 3, hj => simp at hj

theorem below_grown {w w' : World} (h : Below w.heap.size w w') (row : Option Nat) : w.grownBy w' row := ⟨h.os, h.tape, h.output, h.size, fun k hk _ => h.block k hk⟩
theorem owns_below {w w' : World} {base : Nat} {e : TypeId} {size : Nat} {v : Value} {n : Nat} {xs : List Value} (h : w.ownsRow base e size v n xs) (hb : Below w.heap.size w w') : w'.ownsRow base e size v n xs :=
  h.kept (below_grown hb none) (by cases hv : v.ownBlock <;> simp)
theorem ruleAt_le {s : ByteArray} {i : Nat} (hi : i ≤ s.size) : (Pu.ruleAt s i).1 ≤ s.size ∧ i ≤ (Pu.ruleAt s i).1 := by
  unfold Pu.ruleAt
  split
  · split
    · rename_i h h2
      exact ⟨Pu.signs_size s 3 (i + 2) (by omega), by have := (Pu.signs_le s 3 (i + 2)).1; show i ≤ Pu.signs s 3 (i + 2); omega⟩
    · rename_i h h2; exact ⟨by show i + 1 ≤ s.size; omega, by show i ≤ i + 1; omega⟩
  · exact ⟨hi, Nat.le_refl i⟩

set_option maxRecDepth 100000 in
set_option maxHeartbeats 1000000 in
theorem Read_any (s : ByteArray) (w : World) (hs : s.size ≤ 50) :
    Calls Tryd.prog 17 #[.string s] w fun e w' => Below w.heap.size w w' ∧
      (((Pu.parse s 8 0).2.2 = false ∧ e = .returned (.tuple #[.slice none 0 0, .int .i64 ↑(Pu.parse s 8 0).2.1, .bool false])) ∨
       ((Pu.parse s 8 0).2.2 = true ∧ ∃ v, e = .returned (.tuple #[v, .int .i64 ↑(Pu.parse s 8 0).2.1, .bool true]) ∧ w'.ownsRow w.heap.size 43 3 v (Pu.parse s 8 0).1.length (rcells s (Pu.parse s 8 0).1))) := by
  obtain ⟨i0, hi, hz0, hz1, hz2⟩ := info_parts Tryd.info43
  go_enter Tryd.func17, Tryd.ntmps17
  go_wp2_with fail
  go_loopw [5, 6] (fun v iv wr => ∃ (acc : List (Nat × Nat)) (k i : Nat), acc.length + (k + 1) = 8 ∧ i ≤ s.size ∧ iv = .int .i64 i ∧ wr.ownsRow w.heap.size 43 3 v acc.length (rcells s acc) ∧ Below w.heap.size w wr ∧ Hid (Pu.parse s 8 0 = (acc ++ (Pu.parse s (k + 1) i).1, (Pu.parse s (k + 1) i).2))) (fun _ i _ => s.size + 1 - (intOf i).toNat)
  case atStart => exact ⟨[], 7, 0, rfl, by omega, rfl, World.ownsRow_nil _ _ _ _, Below.refl _ _, rfl⟩
  case round =>
    obtain ⟨acc, k, i, hlen, hi', rfl, hown, hbw, HP⟩ := hrel
    obtain ⟨j, b, hr⟩ : ∃ j b, Pu.ruleAt s i = (j, b) := ⟨_, _, rfl⟩
    have HR : Hid (Pu.ruleAt s i = (j, b)) := hr
    have hj := ruleAt_le hi'
    rw [hr] at hj
    obtain ⟨hj1, hj2⟩ : j ≤ s.size ∧ i ≤ j := hj
    cases b with
    | false =>
      have HF : Hid ((Pu.parse s 8 0).2 = (j, false)) := by
        show _ = _
        rw [HP.out]
        show (Pu.parse s (k + 1) i).2 = _
        rw [Pu.parse_fail (by rw [hr]), hr]
      clear hr HP
      go_wp2_with (first
        | (go_at_call 32; refine (rule_at s i j false _ HR hi' hs).mono ?_; rintro e w1 ⟨a, t, rfl, hat, hb1⟩))
      go_ret3
      refine ⟨(hbw.trans (hb1.mono hbw.size)).alloc (Nat.le_trans hbw.size hb1.size) _, .inl ?_⟩
      rw [HF.out]
      exact ⟨rfl, rfl⟩
    | true =>
      have hown1 : ∀ w1, Below wr.heap.size wr w1 → w1.ownsRow w.heap.size 43 3 u5 acc.length (rcells s acc) := fun w1 h => owns_below hown h
      have hsz := hbw.size
      by_cases hend : j = s.size
      · have HF : Hid (Pu.parse s 8 0 = (acc ++ [(i, j)], j, true)) := by
          show _ = _
          rw [HP.out, Pu.parse_end (by rw [hr]) (by rw [hr]; exact hend), hr]
        subst hend
        clear hr HP hown
        go_wp2_with (first
          | (go_at_call 32; refine (rule_at s i s.size true _ HR hi' hs).mono ?_; rintro e w1 ⟨a, t, rfl, hat, hb1⟩; obtain ⟨rfl, rfl⟩ := hat rfl; have hz1' := hb1.size)
          | (at_builtin; refine wpList_append_own _ rfl _ _ 36 rfl w.heap.size 43 i0 (.agg #[.int .u8 0, .string ⟨#[]⟩, .int .i64 0]) 3 32 Tryd.underlying36 hi hz0 hz1 hz2 rfl (by decide) u5 _ _ rfl (((hown1 _ hb1).alloc _).alloc _) ⟨w1.heap.size + 1, 0, none⟩ 1 1 [.int .u8 ↑(Pu.byt s i), .string (sub s (i + 2) s.size), .int .i64 i] rfl rfl (by simpa using cell_three_new (w1.alloc _) _ _ _ _) (fun x hx => by simp at hx; rcases hx with rfl | rfl | rfl <;> rfl) (by unfold maxLen; omega) (by omega) (by simp; omega) ?_; intro v' w3 hown' hgrow3 hnil3
             have hbw3 : Below w.heap.size w w3 := Below.grown (((hbw.trans (hb1.mono hsz)).alloc (by omega) _).alloc (by simp; omega) _) hgrow3 (by simp; omega) (fun j hj => ((hown1 _ hb1).lt _ hj).1)
             clear hgrow3 hnil3))
        go_ret3
        refine ⟨hbw3, .inr ?_⟩
        rw [HF.out]
        exact ⟨rfl, v', rfl, by rw [rcells_snoc, List.length_append]; exact hown'⟩
      · by_cases hgo : Pu.byt s j = 59 ∧ k ≠ 0
        · have HF : Hid (Pu.parse s 8 0 = ((acc ++ [(i, j)]) ++ (Pu.parse s k (j + 1)).1, (Pu.parse s k (j + 1)).2)) := by
            show _ = _
            rw [HP.out, Pu.parse_next (by rw [hr]) (by rw [hr]; exact hend) (by rw [hr]; exact hgo.1) hgo.2, hr]
            simp
          obtain ⟨k, rfl⟩ : ∃ k', k = k' + 1 := ⟨k - 1, by omega⟩
          have hjl : j < s.size := by omega
          have hne : ((j : Int) == (s.size : Int)) = false := by simp; omega
          have hb59 : ((s[j].toNat : Int) != 59) = false := by rw [Pu.byt_eq hjl, hgo.1]; rfl
          have hl8 : ((((acc.length + 1 : Nat)) : Int) == 8) = false := by simp; omega
          have hij : i < j + 1 := by omega
          clear hr HP hown hgo
          go_wp2_with (first
            | (go_at_call 32; refine (rule_at s i j true _ HR hi' hs).mono ?_; rintro e w1 ⟨a, t, rfl, hat, hb1⟩; obtain ⟨rfl, rfl⟩ := hat rfl; have hz1' := hb1.size)
            | (at_builtin; refine wpList_append_own _ rfl _ _ 36 rfl w.heap.size 43 i0 (.agg #[.int .u8 0, .string ⟨#[]⟩, .int .i64 0]) 3 32 Tryd.underlying36 hi hz0 hz1 hz2 rfl (by decide) u5 _ _ rfl (((hown1 _ hb1).alloc _).alloc _) ⟨w1.heap.size + 1, 0, none⟩ 1 1 [.int .u8 ↑(Pu.byt s i), .string (sub s (i + 2) j), .int .i64 i] rfl rfl (by simpa using cell_three_new (w1.alloc _) _ _ _ _) (fun x hx => by simp at hx; rcases hx with rfl | rfl | rfl <;> rfl) (by unfold maxLen; omega) (by omega) (by simp; omega) ?_; intro v' w3 hown' hgrow3 hnil3
               have hbw3 : Below w.heap.size w w3 := Below.grown (((hbw.trans (hb1.mono hsz)).alloc (by omega) _).alloc (by simp; omega) _) hgrow3 (by simp; omega) (fun j hj => ((hown1 _ hb1).lt _ hj).1)
               clear hgrow3 hnil3
               obtain ⟨g, cap, rfl⟩ : ∃ g cap, v' = .slice g (acc.length + 1) cap := by
                 rcases hown'.2 with ⟨_, h0⟩ | ⟨g, cap, _, h0, _⟩
                 · omega
                 · exact ⟨_, _, h0⟩))
          exact ⟨⟨acc ++ [(i, j)], k, j + 1, by simp; omega, by omega, by go_num, by rw [rcells_snoc, List.length_append]; exact hown', hbw3, HF⟩, by simp [intOf]; omega⟩
        · have HF : Hid ((Pu.parse s 8 0).2 = (j, false)) := by
            show _ = _
            rw [HP.out]
            show (Pu.parse s (k + 1) i).2 = _
            rw [Pu.parse_stop (by rw [hr]) (by rw [hr]; exact hend) (by rw [hr]; exact hgo), hr]
          have hjl : j < s.size := by omega
          have hne : ((j : Int) == (s.size : Int)) = false := by simp; omega
          have fin : ∀ (e : Ending) (w' : World), e = .returned (.tuple #[.slice none 0 0, .int .i64 j, .bool false]) → Below w.heap.size w w' → Below w.heap.size w w' ∧
      (((Pu.parse s 8 0).2.2 = false ∧ e = .returned (.tuple #[.slice none 0 0, .int .i64 ↑(Pu.parse s 8 0).2.1, .bool false])) ∨
       ((Pu.parse s 8 0).2.2 = true ∧ ∃ v, e = .returned (.tuple #[v, .int .i64 ↑(Pu.parse s 8 0).2.1, .bool true]) ∧ w'.ownsRow w.heap.size 43 3 v (Pu.parse s 8 0).1.length (rcells s (Pu.parse s 8 0).1))) := by
            intro e w' he hb
            refine ⟨hb, .inl ?_⟩
            rw [HF.out]
            exact ⟨rfl, he⟩
          have FIN : Hid _ := fin
          by_cases h59 : Pu.byt s j = 59
          · have hk0 : k = 0 := Decidable.byContradiction fun h => hgo ⟨h59, h⟩
            subst hk0
            have hb59 : ((s[j].toNat : Int) != 59) = false := by rw [Pu.byt_eq hjl, h59]; rfl
            have hl8 : ((((acc.length + 1 : Nat)) : Int) == 8) = true := by simp; omega
            clear hr HP hown hgo h59 fin
            go_wp2_with (first
              | (go_at_call 32; refine (rule_at s i j true _ HR hi' hs).mono ?_; rintro e w1 ⟨a, t, rfl, hat, hb1⟩; obtain ⟨rfl, rfl⟩ := hat rfl; have hz1' := hb1.size)
              | (at_builtin; refine wpList_append_own _ rfl _ _ 36 rfl w.heap.size 43 i0 (.agg #[.int .u8 0, .string ⟨#[]⟩, .int .i64 0]) 3 32 Tryd.underlying36 hi hz0 hz1 hz2 rfl (by decide) u5 _ _ rfl (((hown1 _ hb1).alloc _).alloc _) ⟨w1.heap.size + 1, 0, none⟩ 1 1 [.int .u8 ↑(Pu.byt s i), .string (sub s (i + 2) j), .int .i64 i] rfl rfl (by simpa using cell_three_new (w1.alloc _) _ _ _ _) (fun x hx => by simp at hx; rcases hx with rfl | rfl | rfl <;> rfl) (by unfold maxLen; omega) (by omega) (by simp; omega) ?_; intro v' w3 hown' hgrow3 hnil3
                 have hbw3 : Below w.heap.size w w3 := Below.grown (((hbw.trans (hb1.mono hsz)).alloc (by omega) _).alloc (by simp; omega) _) hgrow3 (by simp; omega) (fun j hj => ((hown1 _ hb1).lt _ hj).1)
                 clear hgrow3 hnil3
                 obtain ⟨g, cap, rfl⟩ : ∃ g cap, v' = .slice g (acc.length + 1) cap := by
                   rcases hown'.2 with ⟨_, h0⟩ | ⟨g, cap, _, h0, _⟩
                   · omega
                   · exact ⟨_, _, h0⟩))
            go_ret3
            exact FIN.out _ _ rfl hbw3
          · have hb59 : ((s[j].toNat : Int) != 59) = true := by rw [bne_iff_ne, Pu.byt_eq hjl]; omega
            clear hr HP hown hgo h59 fin
            go_wp2_with (first
              | (go_at_call 32; refine (rule_at s i j true _ HR hi' hs).mono ?_; rintro e w1 ⟨a, t, rfl, hat, hb1⟩; obtain ⟨rfl, rfl⟩ := hat rfl; have hz1' := hb1.size)
              | (at_builtin; refine wpList_append_own _ rfl _ _ 36 rfl w.heap.size 43 i0 (.agg #[.int .u8 0, .string ⟨#[]⟩, .int .i64 0]) 3 32 Tryd.underlying36 hi hz0 hz1 hz2 rfl (by decide) u5 _ _ rfl (((hown1 _ hb1).alloc _).alloc _) ⟨w1.heap.size + 1, 0, none⟩ 1 1 [.int .u8 ↑(Pu.byt s i), .string (sub s (i + 2) j), .int .i64 i] rfl rfl (by simpa using cell_three_new (w1.alloc _) _ _ _ _) (fun x hx => by simp at hx; rcases hx with rfl | rfl | rfl <;> rfl) (by unfold maxLen; omega) (by omega) (by simp; omega) ?_; intro v' w3 hown' hgrow3 hnil3
                 have hbw3 : Below w.heap.size w w3 := Below.grown (((hbw.trans (hb1.mono hsz)).alloc (by omega) _).alloc (by simp; omega) _) hgrow3 (by simp; omega) (fun j hj => ((hown1 _ hb1).lt _ hj).1)
                 clear hgrow3 hnil3
                 obtain ⟨g, cap, rfl⟩ : ∃ g cap, v' = .slice g (acc.length + 1) cap := by
                   rcases hown'.2 with ⟨_, h0⟩ | ⟨g, cap, _, h0, _⟩
                   · omega
                   · exact ⟨_, _, h0⟩))
            go_ret3
            exact FIN.out _ _ rfl hbw3
end Go.Proofs.YthmbbiahnfpoeaaDoor
