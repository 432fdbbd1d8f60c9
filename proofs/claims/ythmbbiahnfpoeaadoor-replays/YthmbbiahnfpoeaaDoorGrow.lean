import Derived.Test.YthmbbiahnfpoeaaDoorGrowP
import Derived.WalkKit
import Derived.WalkSpells
import Derived.WalkSmall
import Derived.BigQuiet
import Derived.Deep.QuietTactic
import Derived.Deep.RegionWith
import Derived.Deep.LoopGhost
import Derived.Deep.RegionHeld3
import Derived.Deep.DeepCutAuto
namespace Go.Proofs.YthmbbiahnfpoeaaDoor
open Go.RowKit


theorem phiL_step {N : Nat → Nat → Nat → Nat} {v s : ByteArray} {i j : Nat} {R : List (Nat × Nat)} {r : Nat} (hr : r < R.length) (d : Nat) :
    (if d = Pu.byt s R[r].1 then min 2 (Pu.phiL N v s (Pu.byt s R[r].1) i j (R.take r) 0 + Pu.ways N v s (R[r].2 - (R[r].1 + 2)) (R[r].1 + 2) i j) else Pu.phiL N v s d i j (R.take r) 0) = Pu.phiL N v s d i j (R.take (r + 1)) 0 := by
  rw [Pu.phiL_take hr]
  by_cases e : d = Pu.byt s R[r].1
  · subst e; simp
  · rw [if_neg e, if_neg (fun h => e h.symm)]

set_option linter.unusedSimpArgs false in
set_option maxRecDepth 100000 in
set_option maxHeartbeats 2000000 in
theorem grow_any (pb top base q g cap B : Nat) (v s : ByteArray) (R : List (Nat × Nat)) (L : List Nat) (N : Nat → Nat → Nat → Nat) (i0 j0 : Nat) (w : World) (hv : v.size ≤ 24) (hN : ∀ c i j, N c i j ≤ 2) (hG : Pu.Good s R) (hS : Pu.Signed s R) (hn : R.length ≤ 8) (hnd : L.Nodup) (hl8 : L.length ≤ 8)
    (hLR : ∀ r ∈ R, Pu.byt s r.1 ∈ L) (hLC : ∀ r ∈ R, ∀ a, r.1 + 2 ≤ a → a < r.2 → Pu.nm (Pu.byt s a) = true → Pu.byt s a ∈ L) (hf : pb < base ∧ q < base ∧ g < base ∧ B < base) (hij : i0 ≤ j0) (hj : j0 ≤ v.size) (hcov : base + L.length * (v.size + 2) ≤ w.heap.size) (h : ProgAt w pb top base q g cap B v s R L N) :
    Calls Tryd.prog 81 #[.pointer (some ⟨pb, 0, none⟩), .int .i64 i0, .int .i64 j0] w fun e w' => ∃ b, e = .returned (.bool b) ∧ ProgAt w' pb top base q g cap B v s R L (Pu.partN N (fun c => Pu.phi v s R N c i0 j0) L i0 j0 L.length) ∧ Below base w w' ∧ Pu.Found N (fun c => Pu.phi v s R N c i0 j0) L i0 j0 L.length b := by
  have c0 := h.c0
  have c2 := h.c2
  have g0 := h.gr.c0
  have hpl := lt_heap h.blk
  have hql := h.gr.lt
  have m65 := make65n L.length (by omega)
  have hH0 : Half2 w (w.alloc (.cells (zInts L.length) 3)) pb top base q g cap B w.heap.size v s R L N (fun c => Pu.phiL N v s c i0 j0 (R.take 0) 0) :=
    ⟨h.below ((Below.refl _ _).alloc (Nat.le_refl _) _), sumL_made w L, (Below.refl _ _).alloc (by omega) _, hcov⟩
  have HG := hide hG
  have HS := hide hS
  have HLC := hide hLC
  have HF := hide hf
  clear h hG hS hLC hf hcov
  go_enter Tryd.func81, Tryd.ntmps81
  go_wp2_with fail
  clear m65 c0 c2 g0 hpl hql
  generalize hsb : w.heap.size = sb at *
  clear hsb
  go_loopg [28] (R.length + 1) (fun n kv V => ∃ r : Nat, kv = .int .i64 r ∧ r ≤ R.length ∧ n = R.length + 1 - r ∧ Half2 w V pb top base q g cap B sb v s R L N (fun c => Pu.phiL N v s c i0 j0 (R.take r) 0))
  case atStart => exact ⟨0, rfl, Nat.zero_le _, rfl, hH0⟩
  case round =>
    clear hH0
    obtain ⟨r, rfl, hr, rfl, hH⟩ := hrel
    by_cases hrl : r < R.length
    · obtain ⟨hc0, hc1, hc2⟩ := hH.ch.gr.rules r hrl
      have hmem : R[r] ∈ R := List.getElem_mem hrl
      obtain ⟨h65, h90, hr1, hr2⟩ := HG.out R[r] hmem
      obtain ⟨hr5, hsg⟩ := HS.out R[r] hmem
      have hcL := hLR R[r] hmem
      have hcl := HLC.out R[r] hmem
      have HST := hide (fun d => phiL_step (N := N) (v := v) (s := s) (i := i0) (j := j0) hrl d)
      obtain ⟨t, ht⟩ : ∃ t, t = sub s (R[r].1 + 2) R[r].2 := ⟨_, rfl⟩
      obtain ⟨W, hW⟩ : ∃ W, W = Pu.ways N v s (R[r].2 - (R[r].1 + 2)) (R[r].1 + 2) i0 j0 := ⟨_, rfl⟩
      have HR : Hid (∀ V, ProgAt V pb top base q g cap B v s R L N → Calls Tryd.prog 73 #[.pointer (some ⟨pb, 0, none⟩), .string t, .int .i64 i0, .int .i64 j0] V fun e w' => e = .returned (.int .i64 ↑W) ∧ ∃ d, w' = V.drewN d) := by
        intro V hV
        have hsz := size_sub (s := s) (a := R[r].1 + 2) hr2
        have := rows_any pb top base q g cap B v s R L N hv hN (R[r].2 - (R[r].1 + 2)) t i0 j0 V (by rw [ht]; exact hsz) (by omega) (fun a ha => by rw [ht] at ha ⊢; rw [hsz] at ha; rw [byt_sub hr2 ha]; exact hcl _ (by omega) (by omega)) hij hj hV
        rw [ht, rowsP_sub hr2 _ _ _ _ (by omega), Nat.add_zero, Pu.rowsP_eq hN _ _ _ _ hij (fun a' h1 h2 => hsg a' h1 (by omega))] at this
        rw [ht, hW]; exact this
      have hW2 : W ≤ 2 := by rw [hW]; exact Pu.ways_le _ _ _ _ _ _ _
      rw [← hW] at HST
      rw [← ht] at hc1
      have h256 := Pu.byt_lt s R[r].1
      clear ht hW hr1 hr2 hr5 hsg hcl hmem
      generalize Pu.byt s R[r].1 = c at *
      have g0 := hH.ch.gr.c0
      have c0 := hH.ch.c0
      go_wp2_with fail
      have hH1 := hH.alloc (.cells #[.int .u8 c, .string t, .int .i64 R[r].1] 115)
      have k0 : (wr.alloc (.cells #[.int .u8 c, .string t, .int .i64 R[r].1] 115)).cell? ⟨wr.heap.size, 0, none⟩ = some (.int .u8 c) := by simp
      have k1 : (wr.alloc (.cells #[.int .u8 c, .string t, .int .i64 R[r].1] 115)).cell? ⟨wr.heap.size, 1, none⟩ = some (.string t) := by simp
      have hsl := hH.sm.lt
      clear hH hc0 hc1 hc2 g0 c0
      generalize hV1 : wr.alloc (.cells #[.int .u8 c, .string t, .int .i64 R[r].1] 115) = V1 at *
      clear hV1
      generalize wr.heap.size = rb at *
      clear wr
      have c0 := hH1.ch.c0
      have hix := idx_lt hcL
      have NB := hide (fun n => Number_any q g cap B s R L c (V1.drewN n) (hH1.ch.gr.drewN n) h256 hcL)
      go_quiet ((go_at_call 62; refine Calls.quiet_of_same (NB.out _)))
      have d1 := hH1.sm.at hix
      rw [getD_idxOf hcL] at d1
      have d2 := hH1.sm.frozen (L.idxOf c)
      have hle := Pu.phiL_le N v s c i0 j0 (R.take r) 0 (by omega)
      have HC := hide (fun V (hb : Below V1.heap.size V1 V) => (((hH1.below hb).sum hnd HF.out (c := c) (x := min 2 (Pu.phiL N v s c i0 j0 (R.take r) 0 + W)) hcL).sums (G := fun d => Pu.phiL N v s d i0 j0 (R.take (r + 1)) 0) (fun d _ => HST.out d)))
      have HRV := hide (fun V (hb : Below V1.heap.size V1 V) => HR.out V (hH1.ch.below hb))
      clear hH1 c0 NB HST HR
      generalize Pu.phiL N v s c i0 j0 (R.take r) 0 = x at *
      generalize hLx : L.idxOf c = ix at *
      have hwr : IntKind.i64.wrap ((x : Int) + (W : Int)) = (x : Int) + (W : Int) := by rw [IntKind.wrap_i64]; omega
      have b3 : (0 : Int) ≤ (ix : Int) := by omega
      have b4 : (ix : Int) < (L.length : Int) := by omega
      have e1 : ¬ sb = rb := by omega
      have e2 : ¬ rb = sb := by omega
      go_wp2_with fail
      refine wp_region_held_drew (S := (fun w' => w'.cell? ⟨rb, 1, none⟩ = some (.string t))) (by kernel_rfl) (by go_keep) (fun hHeld => ?_)
      refine wpAnyH_take (i := 0) (v := ?_) rfl (by kernel_rfl) (by kernel_rfl) (by kernel_rfl) (fun _ _ _ h => h) (Or.inl ⟨by rfl, ?_⟩) hHeld ?_
      rotate_left
      · intro w hSw; (try dsimp only at hSw); go_simp; (try with_reducible rfl)
      try simp only [Act.put, List.getElem_toArray, List.getElem_cons_zero, List.getElem_cons_succ, List.setIfInBounds_toArray, List.set_cons_zero, List.set_cons_succ]
      refine wpAnyH_take (i := 1) (v := ?_) rfl (by kernel_rfl) (by kernel_rfl) (by kernel_rfl) (fun _ _ _ h => h) (Or.inl ⟨by rfl, ?_⟩) hHeld ?_
      rotate_left
      · intro w hSw; (try dsimp only at hSw); go_simp; (try with_reducible rfl)
      try simp only [Act.put, List.getElem_toArray, List.getElem_cons_zero, List.getElem_cons_succ, List.setIfInBounds_toArray, List.set_cons_zero, List.set_cons_succ]
      refine wpAnyH_take (i := 2) (v := ?_) rfl (by kernel_rfl) (by kernel_rfl) (by kernel_rfl) (fun _ _ _ h => h) (Or.inl ⟨by rfl, ?_⟩) hHeld ?_
      rotate_left
      · intro w hSw; (try dsimp only at hSw); go_simp; (try with_reducible rfl)
      try simp only [Act.put, List.getElem_toArray, List.getElem_cons_zero, List.getElem_cons_succ, List.setIfInBounds_toArray, List.set_cons_zero, List.set_cons_succ]
      refine wpAnyH_take (i := 3) (v := ?_) rfl (by kernel_rfl) (by kernel_rfl) (by kernel_rfl) (fun _ _ _ h => h) (Or.inl ⟨by rfl, ?_⟩) hHeld ?_
      rotate_left
      · intro w hSw; (try dsimp only at hSw); go_simp; (try with_reducible rfl)
      try simp only [Act.put, List.getElem_toArray, List.getElem_cons_zero, List.getElem_cons_succ, List.setIfInBounds_toArray, List.set_cons_zero, List.set_cons_succ]
      refine wpAnyH_take (i := 4) (v := ?_) rfl (by kernel_rfl) (by kernel_rfl) (by kernel_rfl) (fun _ _ _ h => h) (Or.inl ⟨by rfl, ?_⟩) hHeld ?_
      rotate_left
      · intro w hSw; (try dsimp only at hSw); go_simp; (try with_reducible rfl)
      try simp only [Act.put, List.getElem_toArray, List.getElem_cons_zero, List.getElem_cons_succ, List.setIfInBounds_toArray, List.set_cons_zero, List.set_cons_succ]
      refine wpAnyH_take (i := 6) (v := ?_) rfl (by kernel_rfl) (by kernel_rfl) (by kernel_rfl) (fun _ _ _ h => h) (Or.inl ⟨by rfl, ?_⟩) hHeld ?_
      rotate_left
      · intro w hSw; (try dsimp only at hSw); go_simp; (try with_reducible rfl)
      try simp only [Act.put, List.getElem_toArray, List.getElem_cons_zero, List.getElem_cons_succ, List.setIfInBounds_toArray, List.set_cons_zero, List.set_cons_succ]
      refine wpAnyH_take (i := 7) (v := ?_) rfl (by kernel_rfl) (by kernel_rfl) (by kernel_rfl) (fun _ _ _ h => h) (Or.inl ⟨by rfl, ?_⟩) hHeld ?_
      rotate_left
      · intro w hSw; (try dsimp only at hSw); go_simp; (try with_reducible rfl)
      try simp only [Act.put, List.getElem_toArray, List.getElem_cons_zero, List.getElem_cons_succ, List.setIfInBounds_toArray, List.set_cons_zero, List.set_cons_succ]
      refine wpAnyH_take (i := 8) (v := ?_) rfl (by kernel_rfl) (by kernel_rfl) (by kernel_rfl) (fun _ _ _ h => h) (Or.inl ⟨by rfl, ?_⟩) hHeld ?_
      rotate_left
      · intro w hSw; (try dsimp only at hSw); go_simp; (try with_reducible rfl)
      try simp only [Act.put, List.getElem_toArray, List.getElem_cons_zero, List.getElem_cons_succ, List.setIfInBounds_toArray, List.set_cons_zero, List.set_cons_succ]
      refine wpAnyH_take (i := 9) (v := ?_) rfl (by kernel_rfl) (by kernel_rfl) (by kernel_rfl) (fun _ _ _ h => h) (Or.inl ⟨by rfl, ?_⟩) hHeld ?_
      rotate_left
      · intro w hSw; (try dsimp only at hSw); go_simp; (try with_reducible rfl)
      try simp only [Act.put, List.getElem_toArray, List.getElem_cons_zero, List.getElem_cons_succ, List.setIfInBounds_toArray, List.set_cons_zero, List.set_cons_succ]
      refine wpAnyH_take (i := 10) (v := ?_) rfl (by kernel_rfl) (by kernel_rfl) (by kernel_rfl) (fun _ _ _ h => h) (Or.inl ⟨by rfl, ?_⟩) hHeld ?_
      rotate_left
      · intro w hSw; (try dsimp only at hSw); go_simp; (try with_reducible rfl)
      try simp only [Act.put, List.getElem_toArray, List.getElem_cons_zero, List.getElem_cons_succ, List.setIfInBounds_toArray, List.set_cons_zero, List.set_cons_succ]
      refine wpAnyH_ready (rs := [5, 11]) (by kernel_rfl) (by simp) ?_
      refine AllReadyH.cons rfl (fun K hK => ?_) ?_
      · go_simp
        refine hK.out _ _ (by go_keep) (fun hHeld => ?_)
        clear hK K
        try simp only [Act.put, List.getElem_toArray, List.getElem_cons_zero, List.getElem_cons_succ, List.setIfInBounds_toArray, List.set_cons_zero, List.set_cons_succ]
        refine wpAnyH_ready (rs := [11]) (by kernel_rfl) (by simp) ?_
        refine AllReadyH.cons rfl (fun K hK => ?_) AllReadyH.nil
        go_simp
        (go_at_call 73; refine (HRV.out _ (by exact ⟨rfl, rfl, rfl, Nat.le_refl _, fun _ _ => rfl⟩)).mono ?_; rintro e w2 ⟨rfl, q2, rfl⟩)
        refine hK.out _ _ (by go_keep) (fun hHeld => ?_)
        clear hK K
        try simp only [Act.put, List.getElem_toArray, List.getElem_cons_zero, List.getElem_cons_succ, List.setIfInBounds_toArray, List.set_cons_zero, List.set_cons_succ]
        refine wpAnyH_take (i := 12) (v := ?_) rfl (by kernel_rfl) (by kernel_rfl) (by kernel_rfl) (fun _ _ _ h => h) (Or.inl ⟨by rfl, ?_⟩) hHeld ?_
        rotate_left
        · intro w hSw; (try dsimp only at hSw); go_simp; (try with_reducible rfl)
        try simp only [Act.put, List.getElem_toArray, List.getElem_cons_zero, List.getElem_cons_succ, List.setIfInBounds_toArray, List.set_cons_zero, List.set_cons_succ]
        by_cases h2 : 2 ≤ x + W
        · rw [show ((min 2 (x + W) : Nat) : Int) = 2 by omega] at HC
          refine wpAnyH_ready (rs := [13]) (by kernel_rfl) (by simp) ?_
          refine AllReadyH.cons rfl (fun K hK => ?_) AllReadyH.nil
          go_simp
          refine hK.out _ _ (by go_keep) (fun hHeld => ?_)
          clear hK K
          try simp only [Act.put, List.getElem_toArray, List.getElem_cons_zero, List.getElem_cons_succ, List.setIfInBounds_toArray, List.set_cons_zero, List.set_cons_succ]
          refine wpAnyH_take (i := 14) (v := ?_) rfl (by kernel_rfl) (by kernel_rfl) (by kernel_rfl) (fun _ _ _ h => h) (Or.inl ⟨by rfl, ?_⟩) hHeld ?_
          rotate_left
          · intro w hSw; (try dsimp only at hSw); go_simp; (try with_reducible rfl)
          try simp only [Act.put, List.getElem_toArray, List.getElem_cons_zero, List.getElem_cons_succ, List.setIfInBounds_toArray, List.set_cons_zero, List.set_cons_succ]
          refine wpAnyH_ready (rs := [15]) (by kernel_rfl) (by simp) ?_
          refine AllReadyH.cons rfl (fun K hK => ?_) AllReadyH.nil
          go_simp
          refine hK.out _ _ (by go_keep) (fun hHeld => ?_)
          clear hK K
          try simp only [Act.put, List.getElem_toArray, List.getElem_cons_zero, List.getElem_cons_succ, List.setIfInBounds_toArray, List.set_cons_zero, List.set_cons_succ]
          refine wpAnyH_done (by kernel_rfl) ?_ _
          go_wp2_with fail
          go_roundg (R.length + 1 - (r + 1))
          case measure => omega
          case rel => exact ⟨r + 1, by go_num, by omega, rfl, HC.out _ (by exact ⟨rfl, rfl, rfl, Nat.le_refl _, fun _ _ => rfl⟩)⟩
        · rw [show ((min 2 (x + W) : Nat) : Int) = (x : Int) + (W : Int) by omega] at HC
          refine wpAnyH_ready (rs := [13]) (by kernel_rfl) (by simp) ?_
          refine AllReadyH.cons rfl (fun K hK => ?_) AllReadyH.nil
          go_simp
          refine hK.out _ _ (by go_keep) (fun hHeld => ?_)
          clear hK K
          try simp only [Act.put, List.getElem_toArray, List.getElem_cons_zero, List.getElem_cons_succ, List.setIfInBounds_toArray, List.set_cons_zero, List.set_cons_succ]
          refine wpAnyH_take (i := 14) (v := ?_) rfl (by kernel_rfl) (by kernel_rfl) (by kernel_rfl) (fun _ _ _ h => h) (Or.inl ⟨by rfl, ?_⟩) hHeld ?_
          rotate_left
          · intro w hSw; (try dsimp only at hSw); go_simp; (try with_reducible rfl)
          try simp only [Act.put, List.getElem_toArray, List.getElem_cons_zero, List.getElem_cons_succ, List.setIfInBounds_toArray, List.set_cons_zero, List.set_cons_succ]
          refine wpAnyH_ready (rs := [15]) (by kernel_rfl) (by simp) ?_
          refine AllReadyH.cons rfl (fun K hK => ?_) AllReadyH.nil
          go_simp
          refine hK.out _ _ (by go_keep) (fun hHeld => ?_)
          clear hK K
          try simp only [Act.put, List.getElem_toArray, List.getElem_cons_zero, List.getElem_cons_succ, List.setIfInBounds_toArray, List.set_cons_zero, List.set_cons_succ]
          refine wpAnyH_done (by kernel_rfl) ?_ _
          go_wp2_with fail
          go_roundg (R.length + 1 - (r + 1))
          case measure => omega
          case rel => exact ⟨r + 1, by go_num, by omega, rfl, HC.out _ (by exact ⟨rfl, rfl, rfl, Nat.le_refl _, fun _ _ => rfl⟩)⟩
      refine AllReadyH.cons rfl (fun K hK => ?_) AllReadyH.nil
      go_simp
      (go_at_call 73; refine (HRV.out _ (by exact ⟨rfl, rfl, rfl, Nat.le_refl _, fun _ _ => rfl⟩)).mono ?_; rintro e w2 ⟨rfl, q2, rfl⟩)
      refine hK.out _ _ (by go_keep) (fun hHeld => ?_)
      clear hK K
      try simp only [Act.put, List.getElem_toArray, List.getElem_cons_zero, List.getElem_cons_succ, List.setIfInBounds_toArray, List.set_cons_zero, List.set_cons_succ]
      refine wpAnyH_ready (rs := [5]) (by kernel_rfl) (by simp) ?_
      refine AllReadyH.cons rfl (fun K hK => ?_) AllReadyH.nil
      go_simp
      refine hK.out _ _ (by go_keep) (fun hHeld => ?_)
      clear hK K
      try simp only [Act.put, List.getElem_toArray, List.getElem_cons_zero, List.getElem_cons_succ, List.setIfInBounds_toArray, List.set_cons_zero, List.set_cons_succ]
      refine wpAnyH_take (i := 12) (v := ?_) rfl (by kernel_rfl) (by kernel_rfl) (by kernel_rfl) (fun _ _ _ h => h) (Or.inl ⟨by rfl, ?_⟩) hHeld ?_
      rotate_left
      · intro w hSw; (try dsimp only at hSw); go_simp; (try with_reducible rfl)
      try simp only [Act.put, List.getElem_toArray, List.getElem_cons_zero, List.getElem_cons_succ, List.setIfInBounds_toArray, List.set_cons_zero, List.set_cons_succ]
      by_cases h2 : 2 ≤ x + W
      · rw [show ((min 2 (x + W) : Nat) : Int) = 2 by omega] at HC
        refine wpAnyH_ready (rs := [13]) (by kernel_rfl) (by simp) ?_
        refine AllReadyH.cons rfl (fun K hK => ?_) AllReadyH.nil
        go_simp
        refine hK.out _ _ (by go_keep) (fun hHeld => ?_)
        clear hK K
        try simp only [Act.put, List.getElem_toArray, List.getElem_cons_zero, List.getElem_cons_succ, List.setIfInBounds_toArray, List.set_cons_zero, List.set_cons_succ]
        refine wpAnyH_take (i := 14) (v := ?_) rfl (by kernel_rfl) (by kernel_rfl) (by kernel_rfl) (fun _ _ _ h => h) (Or.inl ⟨by rfl, ?_⟩) hHeld ?_
        rotate_left
        · intro w hSw; (try dsimp only at hSw); go_simp; (try with_reducible rfl)
        try simp only [Act.put, List.getElem_toArray, List.getElem_cons_zero, List.getElem_cons_succ, List.setIfInBounds_toArray, List.set_cons_zero, List.set_cons_succ]
        refine wpAnyH_ready (rs := [15]) (by kernel_rfl) (by simp) ?_
        refine AllReadyH.cons rfl (fun K hK => ?_) AllReadyH.nil
        go_simp
        refine hK.out _ _ (by go_keep) (fun hHeld => ?_)
        clear hK K
        try simp only [Act.put, List.getElem_toArray, List.getElem_cons_zero, List.getElem_cons_succ, List.setIfInBounds_toArray, List.set_cons_zero, List.set_cons_succ]
        refine wpAnyH_done (by kernel_rfl) ?_ _
        go_wp2_with fail
        go_roundg (R.length + 1 - (r + 1))
        case measure => omega
        case rel => exact ⟨r + 1, by go_num, by omega, rfl, HC.out _ (by exact ⟨rfl, rfl, rfl, Nat.le_refl _, fun _ _ => rfl⟩)⟩
      · rw [show ((min 2 (x + W) : Nat) : Int) = (x : Int) + (W : Int) by omega] at HC
        refine wpAnyH_ready (rs := [13]) (by kernel_rfl) (by simp) ?_
        refine AllReadyH.cons rfl (fun K hK => ?_) AllReadyH.nil
        go_simp
        refine hK.out _ _ (by go_keep) (fun hHeld => ?_)
        clear hK K
        try simp only [Act.put, List.getElem_toArray, List.getElem_cons_zero, List.getElem_cons_succ, List.setIfInBounds_toArray, List.set_cons_zero, List.set_cons_succ]
        refine wpAnyH_take (i := 14) (v := ?_) rfl (by kernel_rfl) (by kernel_rfl) (by kernel_rfl) (fun _ _ _ h => h) (Or.inl ⟨by rfl, ?_⟩) hHeld ?_
        rotate_left
        · intro w hSw; (try dsimp only at hSw); go_simp; (try with_reducible rfl)
        try simp only [Act.put, List.getElem_toArray, List.getElem_cons_zero, List.getElem_cons_succ, List.setIfInBounds_toArray, List.set_cons_zero, List.set_cons_succ]
        refine wpAnyH_ready (rs := [15]) (by kernel_rfl) (by simp) ?_
        refine AllReadyH.cons rfl (fun K hK => ?_) AllReadyH.nil
        go_simp
        refine hK.out _ _ (by go_keep) (fun hHeld => ?_)
        clear hK K
        try simp only [Act.put, List.getElem_toArray, List.getElem_cons_zero, List.getElem_cons_succ, List.setIfInBounds_toArray, List.set_cons_zero, List.set_cons_succ]
        refine wpAnyH_done (by kernel_rfl) ?_ _
        go_wp2_with fail
        go_roundg (R.length + 1 - (r + 1))
        case measure => omega
        case rel => exact ⟨r + 1, by go_num, by omega, rfl, HC.out _ (by exact ⟨rfl, rfl, rfl, Nat.le_refl _, fun _ _ => rfl⟩)⟩
    · obtain rfl : r = R.length := by omega
      rw [List.take_length] at hH
      obtain ⟨P, hP⟩ : ∃ P, P = fun c => Pu.phi v s R N c i0 j0 := ⟨_, rfl⟩
      have hH' : Half2 w wr pb top base q g cap B sb v s R L (Pu.partN N P L i0 j0 0) P := by rw [hP, Pu.partN_zero]; exact hH
      have HP := aside_of hP
      have HP2 : Hid (∀ c, P c ≤ 2) := fun c => by rw [hP]; exact Pu.phi_le _ _ _ _ _ _ _
      clear hH HG HS HLC hLR
      go_wp2_with fail
      go_loopg [11, 57] (L.length + 1) (fun n bv kv V => ∃ (k : Nat) (b : Bool), bv = .bool b ∧ kv = .int .i64 k ∧ k ≤ L.length ∧ n = L.length + 1 - k ∧ Half2 w V pb top base q g cap B sb v s R L (Pu.partN N P L i0 j0 k) P ∧ Pu.Found N P L i0 j0 k b)
      case atStart => exact ⟨0, false, rfl, rfl, Nat.zero_le _, rfl, hH', Pu.Found.start N P L i0 j0⟩
      case round =>
        clear hH'
        obtain ⟨k, b, rfl, rfl, hk, rfl, hH, hFo⟩ := hrel
        by_cases hkl : k < L.length
        · have c2 := hH.ch.c2
          have f1 := hH.ch.cube.c1 hkl
          have f2 := hH.ch.cube.c2 hkl (show i0 ≤ v.size by omega)
          have f3 := hH.ch.cube.c3 hkl (show i0 ≤ v.size by omega) hj
          have f4 := hH.ch.cube.frozen hkl (show i0 ≤ v.size by omega) j0
          simp only [Pu.partN_at hnd hkl] at f3
          have d1 := hH.sm.at hkl
          have b1 : (0 : Int) ≤ (i0 : Int) := by omega
          have b2 : (i0 : Int) < (v.size : Int) + 1 := by omega
          have b3 : (0 : Int) ≤ (j0 : Int) := by omega
          have b4 : (j0 : Int) < (v.size : Int) + 1 := by omega
          have b5 : (0 : Int) ≤ (k : Int) := by omega
          have b6 : (k : Int) < (L.length : Int) := by omega
          have hge := tb_ge base v.size k
          have hlt := hH.ch.cube.lt
          have hpb := HF.out.1
          by_cases hgt : N (L.getD k 0) i0 j0 < P (L.getD k 0)
          · have hX := (hH.count hnd HF.out (x := P (L.getD k 0)) hkl (show i0 ≤ v.size by omega) hj).counts (M := Pu.partN N P L i0 j0 (k + 1)) (fun c i j _ _ _ => Pu.partN_set hkl hgt c i j)
            have hY := Pu.Found.yes (N := N) (P := P) (i0 := i0) (j0 := j0) hkl hgt
            clear hH hFo
            generalize tb base v.size k = tk at *
            generalize P (L.getD k 0) = x at *
            generalize N (L.getD k 0) i0 j0 = y at *
            have e1 : (x : Int) > (y : Int) := by omega
            have e2 : (y : Int) < (x : Int) := by omega
            have n1 : ¬ pb = tk + (i0 + 1) := by omega
            have n2 : ¬ tk + (i0 + 1) = pb := by omega
            go_wp2_with fail
            go_roundg (L.length + 1 - (k + 1))
            case measure => omega
            case rel => exact ⟨k + 1, true, rfl, by go_num, by omega, rfl, hX, hY⟩
          · have hX := hH.counts (M := Pu.partN N P L i0 j0 (k + 1)) (fun c i j _ _ _ => Pu.partN_same hkl (by omega) c i j)
            have hY := hFo.no hkl (by omega)
            clear hH hFo
            generalize tb base v.size k = tk at *
            generalize P (L.getD k 0) = x at *
            generalize N (L.getD k 0) i0 j0 = y at *
            have e1 : ¬ (x : Int) > (y : Int) := by omega
            have e2 : ¬ (y : Int) < (x : Int) := by omega
            go_wp2_with fail
            go_roundg (L.length + 1 - (k + 1))
            case measure => omega
            case rel => exact ⟨k + 1, b, rfl, by go_num, by omega, rfl, hX, hY⟩
        · obtain rfl : k = L.length := by omega
          go_wp2_with fail
          go_ret
          exact ⟨b, rfl, by rw [← HP.out]; exact hH.ch, hH.bel, by rw [← HP.out]; exact hFo⟩
end Go.Proofs.YthmbbiahnfpoeaaDoor
