import Derived.Test.YthmbbiahnfpoeaaDoorAppTree
import Derived.Test.YthmbbiahnfpoeaaDoorRefTrees
import Derived.Laws.IdiomStrings
import Derived.WalkKit
import Derived.WalkSpells
import Derived.WalkSmall
import Derived.BigQuiet
import Derived.Deep.QuietTactic
import Derived.Deep.RegionWith
import Derived.Deep.LoopGhost
import Derived.Deep.RegionHeld3
import Derived.Deep.DeepCutAuto
namespace Go.Proofs.YthmbbiahnfpoeaaDoor
open Go.RowKit

theorem Start_any (q g cap B : Nat) (s : ByteArray) (R : List (Nat × Nat)) (L : List Nat) (w : World) (h : GrAt w q g cap B s R L) (hR : 0 < R.length) :
    Calls Tryd.prog 44 #[.pointer (some ⟨q, 0, none⟩)] w fun e w' => e = .returned (.int .u8 ↑(Pu.byt s (R[0]'hR).1)) ∧ w' = w := by
  have c0 := h.c0
  obtain ⟨f0, _, _⟩ := h.rules 0 hR
  have b1 : (0 : Int) < (R.length : Int) := by omega
  generalize Pu.byt s (R[0]'hR).1 = c at *
  clear h
  go_enter Tryd.func44, Tryd.ntmps44
  go_wp2
  go_ret
  exact ⟨rfl, rfl⟩
/-- The owned bytes as a string. -/
theorem conv_owned {w : World} {B : Nat} {tv : Value} {l : List UInt8} (h : w.ownsRow B 5 1 tv l.length (bys l)) (hl : 0 < l.length) : ∃ a cap, tv = .slice (some a) l.length cap ∧ Sem.run Tryd.prog (convert 101 9 (.slice (some a) l.length cap)) w = .ok (.string (txt l)) w := by
  obtain ⟨_, ⟨_, h0⟩ | ⟨g', cap, cur, hv, _, hh, _, _, hsz, htake⟩⟩ := h
  · omega
  · refine ⟨⟨g', 0, none⟩, cap, hv, ?_⟩
    refine run_convert_bytes_back (P := Tryd.prog) w 101 9 5 ⟨g', 0, none⟩ cap l Tryd.underlying101 Tryd.underlying5 Tryd.underlying9 (fun j hj => ?_)
    have hc : (cur.toList.take (l.length * 1))[j]? = some (.int .u8 l[j].toNat) := by
      rw [htake]
      simp [bys, hj]
    rw [List.getElem?_take, if_pos (by omega)] at hc
    have ha : (⟨g', 0, none⟩ : Addr).add j = ⟨g', j, none⟩ := by simp [Addr.add]; omega
    rw [ha]
    have hc' : cur[j]? = some (.int .u8 l[j].toNat) := by simpa using hc
    simp only [World.cell?, hh]
    exact hc'

set_option linter.unusedSimpArgs false in
set_option maxRecDepth 100000 in
set_option maxHeartbeats 2000000 in
theorem CTrees_any (pb top base q g cap B : Nat) (v s : ByteArray) (R : List (Nat × Nat)) (L : List Nat) (m : Nat) (w : World) (hv : v.size ≤ 24) (hG : Pu.Good s R) (hS : Pu.Signed s R) (hn : R.length ≤ 8) (hR : 0 < R.length)
    (hLR : ∀ r ∈ R, Pu.byt s r.1 ∈ L) (hLC : ∀ r ∈ R, ∀ a, r.1 + 2 ≤ a → a < r.2 → Pu.nm (Pu.byt s a) = true → Pu.byt s a ∈ L) (hm : Pu.Cnt v s R v.size (Pu.lvl v s R m)) (hP : ProgAt w pb top base q g cap B v s R L (Pu.lvl v s R m)) :
    Calls Tryd.prog 27 #[.pointer (some ⟨pb, 0, none⟩)] w fun e w' => Below w.heap.size w w' ∧ e = .returned (.tuple #[.int .i64 ↑(Pu.lvl v s R m (Pu.byt s (R[0]'hR).1) 0 v.size), .string (txt (if Pu.lvl v s R m (Pu.byt s (R[0]'hR).1) 0 v.size = 1 then Pu.treeT (Pu.lvl v s R m) v s R m (Pu.byt s (R[0]'hR).1) 0 v.size else []))]) := by
  have hst : Pu.Stands v s R v.size (Pu.lvl v s R m) := ⟨hm.2⟩
  have hc256 := Pu.byt_lt s (R[0]'hR).1
  have hN := Pu.lvl_two v s R m
  have hmem : (R[0]'hR) ∈ R := List.getElem_mem hR
  obtain ⟨h65, h90, _, _⟩ := hG _ hmem
  have hnm : Pu.nm (Pu.byt s (R[0]'hR).1) = true := (nm_iff _).2 ⟨h65, h90⟩
  have HST := hide (fun d => Start_any q g cap B s R L (w.drewN d) (hP.gr.drewN d) hR)
  have HSG := hide (fun d => sign_any pb top base q g cap B v s R L (Pu.lvl v s R m) (Pu.byt s (R[0]'hR).1) 0 v.size (w.drewN d) hv (hP.drewN d) hc256 (fun _ => hLR _ hmem) (Nat.zero_le _) (Nat.le_refl _))
  have hsg : Pu.sgn (Pu.lvl v s R m) v (Pu.byt s (R[0]'hR).1) 0 v.size = Pu.lvl v s R m (Pu.byt s (R[0]'hR).1) 0 v.size := by simp only [Pu.sgn]; rw [if_pos hnm]
  rw [hsg] at HSG
  have c0 := hP.c0
  have c1 := hP.c1
  by_cases h1 : Pu.lvl v s R m (Pu.byt s (R[0]'hR).1) 0 v.size = 1
  · rw [if_pos h1]
    have hlen := Pu.tree_short8 hst hG hS hn hv (Nat.zero_le _) (Nat.le_refl _) h1 (Nat.le_of_eq h1.symm)
    have hpos : 0 < (Pu.treeT (Pu.lvl v s R m) v s R m (Pu.byt s (R[0]'hR).1) 0 v.size).length := by
      obtain ⟨r, hr⟩ := Pu.one_rule (by rw [hst.fix (Pu.byt s (R[0]'hR).1) 0 v.size (Nat.zero_le _) (Nat.le_refl _)]; exact h1)
      cases m with
      | zero => simp only [Pu.lvl] at h1; omega
      | succ p => rw [hr.tree p]; simp
    have HAT : Hid (∀ d, Calls Tryd.prog 46 #[.pointer (some ⟨pb, 0, none⟩), .slice none 0 0, .int .u8 ↑(Pu.byt s (R[0]'hR).1), .int .i64 0, .int .i64 v.size] (w.drewN d) fun e w' => ∃ a cap, e = .returned (.slice (some a) (Pu.treeT (Pu.lvl v s R m) v s R m (Pu.byt s (R[0]'hR).1) 0 v.size).length cap) ∧ Sem.run Tryd.prog (convert 101 9 (.slice (some a) (Pu.treeT (Pu.lvl v s R m) v s R m (Pu.byt s (R[0]'hR).1) 0 v.size).length cap)) w' = .ok (.string (txt (Pu.treeT (Pu.lvl v s R m) v s R m (Pu.byt s (R[0]'hR).1) 0 v.size))) w' ∧ Below w.heap.size w w') := by
      intro d
      have := appendTree_any pb top base q g cap B v s R L (Pu.lvl v s R m) w hv hN hst hG hS hn hLC hP m (Pu.byt s (R[0]'hR).1) 0 v.size (.slice none 0 0) [] (w.drewN d) hc256 (Nat.zero_le _) (Nat.le_refl _) h1 (Nat.le_of_eq h1.symm) (Go.below_drewN (Below.refl _ _) d) (World.ownsRow_nil _ _ _ _) (by simpa using hlen)
      refine this.mono ?_
      rintro e w' ⟨tv', rfl, ho, hb⟩
      rw [List.nil_append] at ho
      obtain ⟨a, cap', rfl, hcv⟩ := conv_owned ho hpos
      exact ⟨a, cap', rfl, hcv, hb⟩
    rw [h1] at HSG ⊢
    generalize Pu.treeT (Pu.lvl v s R m) v s R m (Pu.byt s (R[0]'hR).1) 0 v.size = T at *
    generalize Pu.byt s (R[0]'hR).1 = c at *
    clear hst hN hmem h65 h90 hnm hsg hP hm hG hS hLR hLC hlen hpos h1
    go_enter Tryd.func27, Tryd.ntmps27
    go_wp2_with fail
    go_quiet ((go_at_call 44; refine Calls.quiet_of_same (HST.out _)))
    go_wp2_with (go_at_call 45; refine (HSG.out _).mono ?_; rintro e w2 ⟨rfl, q2, rfl⟩)
    refine wp_region_held_drew (S := (fun _ => True)) (by kernel_rfl) (by exact trivial) (fun hHeld => ?_)
    refine wpAnyH_take (i := 0) (v := ?_) rfl (by kernel_rfl) (by kernel_rfl) (by kernel_rfl) (fun _ _ _ h => h) (Or.inl ⟨by rfl, ?_⟩) hHeld ?_
    rotate_left
    · intro w hSw; (try dsimp only at hSw); go_simp; (try with_reducible rfl)
    try simp only [Act.put, List.getElem_toArray, List.getElem_cons_zero, List.getElem_cons_succ, List.setIfInBounds_toArray, List.set_cons_zero, List.set_cons_succ]
    refine wpAnyH_take (i := 1) (v := ?_) rfl (by kernel_rfl) (by kernel_rfl) (by kernel_rfl) (fun _ _ _ h => h) (Or.inl ⟨by rfl, ?_⟩) hHeld ?_
    rotate_left
    · intro w hSw; (try dsimp only at hSw); go_simp; (try with_reducible rfl)
    try simp only [Act.put, List.getElem_toArray, List.getElem_cons_zero, List.getElem_cons_succ, List.setIfInBounds_toArray, List.set_cons_zero, List.set_cons_succ]
    refine wpAnyH_take (i := 2) (v := ?_) rfl (by kernel_rfl) (by kernel_rfl) (by kernel_rfl) (fun _ _ _ h => h) (Or.inl ⟨by rfl, ?_⟩) hHeld ?_
    rotate_left
    · intro w hSw; (try dsimp only at hSw); go_simp; (try with_reducible rfl)
    try simp only [Act.put, List.getElem_toArray, List.getElem_cons_zero, List.getElem_cons_succ, List.setIfInBounds_toArray, List.set_cons_zero, List.set_cons_succ]
    refine wpAnyH_take (i := 3) (v := ?_) rfl (by kernel_rfl) (by kernel_rfl) (by kernel_rfl) (fun _ _ _ h => h) (Or.inl ⟨by rfl, ?_⟩) hHeld ?_
    rotate_left
    · intro w hSw; (try dsimp only at hSw); go_simp; (try with_reducible rfl)
    try simp only [Act.put, List.getElem_toArray, List.getElem_cons_zero, List.getElem_cons_succ, List.setIfInBounds_toArray, List.set_cons_zero, List.set_cons_succ]
    refine wpAnyH_ready (rs := [4]) (by kernel_rfl) (by simp) ?_
    refine AllReadyH.cons rfl (fun K hK => ?_) AllReadyH.nil
    go_simp
    (go_at_call 46; refine (HAT.out _).mono ?_; rintro e w3 ⟨a, cap', rfl, hcv, hb3⟩)
    refine hK.out _ _ (by go_keep) (fun hHeld => ?_)
    clear hK K
    try simp only [Act.put, List.getElem_toArray, List.getElem_cons_zero, List.getElem_cons_succ, List.setIfInBounds_toArray, List.set_cons_zero, List.set_cons_succ]
    refine wpAnyH_take (i := 6) (v := ?_) rfl (by kernel_rfl) (by kernel_rfl) (by kernel_rfl) (fun _ _ _ h => h) (Or.inl ⟨by rfl, ?_⟩) hHeld ?_
    rotate_left
    · intro w hSw; (try dsimp only at hSw); go_simp; (try with_reducible rfl)
    try simp only [Act.put, List.getElem_toArray, List.getElem_cons_zero, List.getElem_cons_succ, List.setIfInBounds_toArray, List.set_cons_zero, List.set_cons_succ]
    refine wpAnyH_ready (rs := [5]) (by kernel_rfl) (by simp) ?_
    refine AllReadyH.cons rfl (fun K hK => ?_) AllReadyH.nil
    go_simp
    refine hK.out _ _ (by go_keep) (fun hHeld => ?_)
    clear hK K
    try simp only [Act.put, List.getElem_toArray, List.getElem_cons_zero, List.getElem_cons_succ, List.setIfInBounds_toArray, List.set_cons_zero, List.set_cons_succ]
    refine wpAnyH_take (i := 7) (v := ?_) rfl (by kernel_rfl) (by kernel_rfl) (by kernel_rfl) (fun _ _ _ h => h) (Or.inl ⟨by rfl, ?_⟩) hHeld ?_
    rotate_left
    · intro w hSw; (try dsimp only at hSw); go_simp; (try with_reducible rfl)
    try simp only [Act.put, List.getElem_toArray, List.getElem_cons_zero, List.getElem_cons_succ, List.setIfInBounds_toArray, List.set_cons_zero, List.set_cons_succ]
    refine wpAnyH_done (by kernel_rfl) ?_ _
    go_wp2_with fail
    go_ret2
    exact ⟨hb3, rfl⟩
  · rw [if_neg h1]
    have hle := hN (Pu.byt s (R[0]'hR).1) 0 v.size
    generalize Pu.lvl v s R m (Pu.byt s (R[0]'hR).1) 0 v.size = x at *
    generalize Pu.byt s (R[0]'hR).1 = c at *
    have e1 : ((x : Int) != 1) = true := by simp; omega
    have e2 : ((x : Int) == 1) = false := by simp; omega
    clear hst hN hmem h65 h90 hnm hsg hP hm hG hS hLR hLC h1
    go_enter Tryd.func27, Tryd.ntmps27
    go_wp2_with fail
    go_quiet ((go_at_call 44; refine Calls.quiet_of_same (HST.out _)))
    go_wp2_with (go_at_call 45; refine (HSG.out _).mono ?_; rintro e w2 ⟨rfl, q2, rfl⟩)
    go_ret2
    exact ⟨Go.below_drewN (Below.refl _ _) _, rfl⟩
end Go.Proofs.YthmbbiahnfpoeaaDoor
