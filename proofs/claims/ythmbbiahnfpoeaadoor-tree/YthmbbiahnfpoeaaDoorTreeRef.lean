import Derived.Test.YthmbbiahnfpoeaaDoorRowRef
import Derived.WalkKit
import Derived.WalkSpells
import Derived.WalkSmall
import Derived.BigQuiet
import Derived.Deep.QuietTactic
import Derived.Deep.RegionWith
import Derived.Deep.LoopGhost
import Derived.Deep.RegionHeld3
import Derived.Deep.DeepCutAuto
import Derived.Laws.Concat
import Derived.Laws.IdiomStrings
namespace Go.Proofs.YthmbbiahnfpoeaaDoor
open Go.RowKit

/-- A chart and its rules in memory. -/
structure RefAt (w : World) (cb top base g cap : Nat) (v s : ByteArray) (R : List (Nat × Nat)) (N : Nat → Nat → Nat → Nat) : Prop where
  ch : ChartAt w cb top base v.size (.slice (some ⟨g, 0, none⟩) R.length cap) v N
  ra : RulesAt w g s R
  gl : g < w.heap.size
theorem RefAt.below {w w' : World} {cb top base g cap : Nat} {v s : ByteArray} {R : List (Nat × Nat)} {N : Nat → Nat → Nat → Nat} (h : RefAt w cb top base g cap v s R N) (hb : Below w.heap.size w w') : RefAt w' cb top base g cap v s R N :=
  ⟨h.ch.below hb, h.ra.below hb h.gl, Nat.lt_of_lt_of_le h.gl hb.size⟩
theorem ChartAt.c0 {w : World} {cb top base n : Nat} {lv : Value} {v : ByteArray} {N : Nat → Nat → Nat → Nat} (h : ChartAt w cb top base n lv v N) : w.cell? ⟨cb, 0, none⟩ = some lv := by have := h.blk; simp [World.cell?, this]

theorem cell_new (w : World) (x : Value) (t : TypeId) : (w.alloc (.cells #[x] t)).cell? ⟨w.heap.size, 0, none⟩ = some x := by
  rw [World.cell?_alloc_mark]; rfl

set_option linter.unusedSimpArgs false in
set_option maxRecDepth 100000 in
set_option maxHeartbeats 2000000 in
theorem tree_any (cb top base g cap : Nat) (v s : ByteArray) (R : List (Nat × Nat)) (N : Nat → Nat → Nat → Nat) (hv : v.size ≤ 24) (hN : ∀ c i j, N c i j ≤ 2) (hst : Pu.Stands v s R v.size N) (hG : Pu.Good s R) (hS : Pu.Signed s R) (hn : R.length ≤ 8) :
    ∀ (p c i j : Nat) (w : World), i ≤ j → j ≤ v.size → N c i j = 1 → 1 ≤ Pu.lvl v s R p c i j → RefAt w cb top base g cap v s R N →
    Calls Tryd.prog 30 #[.pointer (some ⟨cb, 0, none⟩), .int .u8 c, .int .i64 i, .int .i64 j] w fun e w' => e = .returned (.string (txt (Pu.treeT N v s R p c i j))) ∧ Below w.heap.size w w'
  | 0, c, i, j, w, _, _, _, hp, _ => by simp only [Pu.lvl] at hp; omega
  | p + 1, c, i, j, w, hij, hj, hN1, hp, h => by
    have ih := hide (tree_any cb top base g cap v s R N hv hN hst hG hS hn p)
    obtain ⟨r, hr⟩ := Pu.one_rule (by rw [hst.fix c i j hij hj]; exact hN1)
    have hrl := hr.1
    have hval : Aside (Pu.treeT N v s R (p + 1) c i j = UInt8.ofNat (48 + r) :: Pu.rowR N v s (Pu.treeT N v s R p) R[r] i j) := aside_of (hr.tree p)
    have hway : 1 ≤ Pu.wayR (Pu.lvl v s R p) v s R[r] i j := hr.lvl' (hst.le p hj) hp
    have hnm : Pu.byt s R[r].1 = c := hr.name.1
    have hw1 : Pu.wayR N v s R[r] i j = 1 := hr.name.2
    have hoth := hr.2.2
    clear hr
    have HTR : Hid (∀ W, RefAt W cb top base g cap v s R N → Calls Tryd.prog 51 #[.pointer (some ⟨cb, 0, none⟩), .string (sub s (R[r].1 + 2) R[r].2), .int .i64 i, .int .i64 j] W fun e w' => e = .returned (.string (txt (Pu.rowR N v s (Pu.treeT N v s R p) R[r] i j))) ∧ Below W.heap.size W w') := fun W hW => by
      obtain ⟨h65, h90, hr1, hr2⟩ := hG R[r] (List.getElem_mem hrl)
      obtain ⟨hr5, hsg⟩ := hS R[r] (List.getElem_mem hrl)
      have hsz := size_sub (s := s) (a := R[r].1 + 2) hr2
      have := trees_any cb top base (.slice (some ⟨g, 0, none⟩) R.length cap) v N (Pu.lvl v s R p) (Pu.treeT N v s R p) (fun W => RefAt W cb top base g cap v s R N) hv hN (fun c i j a1 a2 => hst.le p a2 c i j (Nat.zero_le _) a1 (Nat.le_refl _)) (fun _ _ a1 a2 => a1.below a2) (fun _ a => a.ch)
        (fun c i j a1 a2 a3 a4 => Pu.tree_short hst hG hS hv a1 a2 a3 a4) (fun c i j w a1 a2 a3 a4 a5 => ih.out c i j w a1 a2 a3 a4 a5) (R[r].2 - (R[r].1 + 2)) (sub s (R[r].1 + 2) R[r].2) i j W hsz (by omega) (fun a ha => by rw [hsz] at ha; rw [byt_sub hr2 ha]; exact hsg _ (by omega) (by omega)) hij hj hW
        (by rw [ways_sub hr2 _ _ _ _ (by omega)]; exact hw1) (by rw [ways_sub hr2 _ _ _ _ (by omega)]; exact hway)
      rw [row_sub hr2 _ _ _ _ (by omega)] at this
      exact this
    have hlen : (Pu.rowR N v s (Pu.treeT N v s R p) R[r] i j).length ≤ 30000000000000000 := by
      have := row_short (t := s) (T := Pu.treeT N v s R p) (M := Pu.lvl v s R p) (fun c i j a1 a2 => hst.le p a2 c i j (Nat.zero_le _) a1 (Nat.le_refl _)) (fun c i j a1 a2 a3 a4 => Pu.tree_short hst hG hS hv a1 a2 a3 a4) (R[r].2 - (R[r].1 + 2)) (R[r].1 + 2) i j hij hj hw1 hway
      have h5 := (hS R[r] (List.getElem_mem hrl)).1
      have : (R[r].2 - (R[r].1 + 2)) * 10000000000000000 ≤ 3 * 10000000000000000 := Nat.mul_le_mul_right _ (by omega)
      unfold Pu.rowR; omega
    have HFR : Hid (∀ r' (hl : r' < R.length) W, RefAt W cb top base g cap v s R N → Calls Tryd.prog 50 #[.pointer (some ⟨cb, 0, none⟩), .string (sub s (R[r'].1 + 2) R[r'].2), .int .i64 i, .int .i64 j] W fun e w' => e = .returned (.int .i64 ↑(Pu.wayR N v s R[r'] i j)) ∧ ∃ q, w' = W.drewN q) := fun r' hl W hW => by
      obtain ⟨h65, h90, hr1, hr2⟩ := hG R[r'] (List.getElem_mem hl)
      obtain ⟨hr5, hsg⟩ := hS R[r'] (List.getElem_mem hl)
      have hsz := size_sub (s := s) (a := R[r'].1 + 2) hr2
      have := from_any cb top base (.slice (some ⟨g, 0, none⟩) R.length cap) v N hv hN (R[r'].2 - (R[r'].1 + 2)) (sub s (R[r'].1 + 2) R[r'].2) i j W hsz (by omega) (fun a ha => by rw [hsz] at ha; rw [byt_sub hr2 ha]; exact hsg _ (by omega) (by omega)) hij hj hW.ch
      rw [ways_sub hr2 _ _ _ _ (by omega)] at this
      exact this
    have HOT : Hid (∀ r' (hl : r' < R.length), r' ≠ r → Pu.byt s R[r'].1 = c → Pu.wayR N v s R[r'] i j = 0) := fun r' hl hne hc => by
      have := hoth r' hl hne
      rw [Pu.ruleW_at hl, if_pos hc] at this; exact this
    have HRA := hide h.ra
    have hc0 := h.ch.c0
    have HLT := hide (And.intro (lt_heap h.ch.blk) h.gl)
    have HRF := hide (fun W (hb : Below w.heap.size w W) => h.below hb)
    clear ih hN1 hp hst hG hS hway hoth h
    go_enter Tryd.func30, Tryd.ntmps30
    go_wp2_with fail
    go_loopg [9] (R.length + 1) (fun q rv V => ∃ (k d : Nat), rv = .int .i64 k ∧ k ≤ r ∧ q = R.length + 1 - k ∧ V = w.drewN d)
    case atStart => exact ⟨0, 0, rfl, Nat.zero_le _, rfl, rfl⟩
    case round =>
      obtain ⟨k, d, rfl, hkr, rfl, rfl⟩ := hrel
      have hkl : k < R.length := by omega
      obtain ⟨f0, f1, _⟩ := HRA.out k hkl
      have b1 : (0 : Int) ≤ (k : Int) := by omega
      have b2 : (k : Int) < (R.length : Int) := by omega
      have HFk := hide (fun W hW => HFR.out k hkl W hW)
      have HFO := hide (HOT.out k hkl)
      by_cases hkr' : k = r
      · subst hkr'
        rw [hnm] at f0
        rw [hw1] at HFk
        obtain ⟨D, hD⟩ : ∃ D, D = txt [UInt8.ofNat (48 + k)] := ⟨_, rfl⟩
        have hsum : ¬ 9223372036854775807 < D.size + (txt (Pu.rowR N v s (Pu.treeT N v s R p) R[k] i j)).size := by rw [hD, txt_size, txt_size]; simp; omega
        have hout : Aside (D ++ txt (Pu.rowR N v s (Pu.treeT N v s R p) R[k] i j) = txt (Pu.treeT N v s R (p + 1) c i j)) := by
          show _ = _
          rw [hD, txt_append, hval.out]; rfl
        have HD := aside_of hD
        clear hD
        clear HFO HFR HOT hval hw1 hlen hnm
        generalize sub s (R[k].1 + 2) R[k].2 = t at *
        generalize txt (Pu.rowR N v s (Pu.treeT N v s R p) R[k] i j) = y at *
        have k8 : (k : Int) < 8 := by omega
        have hltc : cb < w.heap.size := HLT.out.1
        have hltg : g < w.heap.size := HLT.out.2
        have hwk : IntKind.i64.wrap (48 + (k : Int)) = 48 + (k : Int) := by rw [IntKind.wrap_i64]; omega
        have hwu : IntKind.u8.wrap (48 + (k : Int)) = 48 + (k : Int) := by rw [IntKind.wrap_u8]; omega
        have hconv : ∀ (W : World) (b : Nat), W.cell? ⟨b, 0, none⟩ = some (.int .u8 (48 + (k : Int))) → Sem.run Tryd.prog (convert 101 9 (.slice (some ⟨b, 0, none⟩) 1 1)) W = .ok (.string D) W := fun W b hb => by
          rw [HD.out]
          refine run_convert_bytes_back (P := Tryd.prog) W 101 9 5 ⟨b, 0, none⟩ 1 [UInt8.ofNat (48 + k)] Tryd.underlying101 Tryd.underlying5 Tryd.underlying9 (fun j hj => ?_)
          obtain rfl : j = 0 := by simp at hj; omega
          have e : (UInt8.ofNat (48 + k)).toNat = 48 + k := by rw [UInt8.toNat_ofNat']; omega
          show W.cell? ⟨b, 0 + 0, none⟩ = _
          simp only [List.getElem_cons_zero, e]
          exact hb
        go_wp2_with (go_at_call 50; refine (HFk.out _ (HRF.out _ (by exact ⟨rfl, rfl, rfl, Nat.le_refl _, fun _ _ => rfl⟩))).mono ?_; rintro e w2 ⟨rfl, q2, rfl⟩)
        refine wp_region_noPanic ?_
        refine wp_region_held_drew (S := (fun w' => w'.cell? ⟨cb, 0, none⟩ = some (.slice (some ⟨g, 0, none⟩) R.length cap) ∧ w'.cell? ⟨g, k * 3 + 1, none⟩ = some (.string t))) (by kernel_rfl) (by go_keep) (fun hHeld => ?_)
        refine wpAnyH_take (i := 0) (v := ?_) rfl (by kernel_rfl) (by kernel_rfl) (by kernel_rfl) (fun _ _ _ h => h) (Or.inl ⟨by rfl, ?_⟩) hHeld ?_
        rotate_left
        · intro w hSw; (try dsimp only at hSw); go_simp; (try with_reducible rfl)
        try simp only [Act.put, List.getElem_toArray, List.getElem_cons_zero, List.getElem_cons_succ, List.setIfInBounds_toArray, List.set_cons_zero, List.set_cons_succ]
        refine wpAnyH_take (i := 1) (v := ?_) rfl (by kernel_rfl) (by kernel_rfl) (by kernel_rfl) (fun _ _ _ h => h) (Or.inl ⟨by rfl, ?_⟩) hHeld ?_
        rotate_left
        · intro w hSw; (try dsimp only at hSw); go_simp; (try with_reducible rfl)
        try simp only [Act.put, List.getElem_toArray, List.getElem_cons_zero, List.getElem_cons_succ, List.setIfInBounds_toArray, List.set_cons_zero, List.set_cons_succ]
        refine wpAnyH_take (i := 2) (v := ?_) rfl (by kernel_rfl) (by kernel_rfl) (by kernel_rfl) (fun _ _ _ h => h) (Or.inl ⟨by rfl, ?_⟩) hHeld ?_
        rotate_left
        · intro w hSw; (try dsimp only at hSw); go_simp; (try with_reducible rfl)
        try simp only [Act.put, List.getElem_toArray, List.getElem_cons_zero, List.getElem_cons_succ, List.setIfInBounds_toArray, List.set_cons_zero, List.set_cons_succ]
        refine wpAnyH_take (i := 5) (v := ?_) rfl (by kernel_rfl) (by kernel_rfl) (by kernel_rfl) (fun _ _ _ h => h) (Or.inl ⟨by rfl, ?_⟩) hHeld ?_
        rotate_left
        · intro w hSw; (try dsimp only at hSw); go_simp; (try with_reducible rfl)
        try simp only [Act.put, List.getElem_toArray, List.getElem_cons_zero, List.getElem_cons_succ, List.setIfInBounds_toArray, List.set_cons_zero, List.set_cons_succ]
        refine wpAnyH_take (i := 6) (v := ?_) rfl (by kernel_rfl) (by kernel_rfl) (by kernel_rfl) (fun _ _ _ h => h) (Or.inl ⟨by rfl, ?_⟩) hHeld ?_
        rotate_left
        · intro w hSw; (try dsimp only at hSw); go_simp; (try with_reducible rfl)
        try simp only [Act.put, List.getElem_toArray, List.getElem_cons_zero, List.getElem_cons_succ, List.setIfInBounds_toArray, List.set_cons_zero, List.set_cons_succ]
        refine wpAnyH_take (i := 7) (v := ?_) rfl (by kernel_rfl) (by kernel_rfl) (by kernel_rfl) (fun _ _ _ h => h) (Or.inl ⟨by rfl, ?_⟩) hHeld ?_
        rotate_left
        · intro w hSw; (try dsimp only at hSw); go_simp; (try with_reducible rfl)
        try simp only [Act.put, List.getElem_toArray, List.getElem_cons_zero, List.getElem_cons_succ, List.setIfInBounds_toArray, List.set_cons_zero, List.set_cons_succ]
        refine wpAnyH_take (i := 8) (v := ?_) rfl (by kernel_rfl) (by kernel_rfl) (by kernel_rfl) (fun _ _ _ h => h) (Or.inl ⟨by rfl, ?_⟩) hHeld ?_
        rotate_left
        · intro w hSw; (try dsimp only at hSw); go_simp; (try with_reducible rfl)
        try simp only [Act.put, List.getElem_toArray, List.getElem_cons_zero, List.getElem_cons_succ, List.setIfInBounds_toArray, List.set_cons_zero, List.set_cons_succ]
        refine wpAnyH_take (i := 9) (v := ?_) rfl (by kernel_rfl) (by kernel_rfl) (by kernel_rfl) (fun _ _ _ h => h) (Or.inl ⟨by rfl, ?_⟩) hHeld ?_
        rotate_left
        · intro w hSw; (try dsimp only at hSw); go_simp; (try with_reducible rfl)
        try simp only [Act.put, List.getElem_toArray, List.getElem_cons_zero, List.getElem_cons_succ, List.setIfInBounds_toArray, List.set_cons_zero, List.set_cons_succ]
        refine wpAnyH_take (i := 10) (v := ?_) rfl (by kernel_rfl) (by kernel_rfl) (by kernel_rfl) (fun _ _ _ h => h) (Or.inl ⟨by rfl, ?_⟩) hHeld ?_
        rotate_left
        · intro w hSw; (try dsimp only at hSw); go_simp; (try with_reducible rfl)
        try simp only [Act.put, List.getElem_toArray, List.getElem_cons_zero, List.getElem_cons_succ, List.setIfInBounds_toArray, List.set_cons_zero, List.set_cons_succ]
        refine wpAnyH_take (i := 11) (v := ?_) rfl (by kernel_rfl) (by kernel_rfl) (by kernel_rfl) (fun _ _ _ h => h) (Or.inl ⟨by rfl, ?_⟩) hHeld ?_
        rotate_left
        · intro w hSw; (try dsimp only at hSw); go_simp; (try with_reducible rfl)
        try simp only [Act.put, List.getElem_toArray, List.getElem_cons_zero, List.getElem_cons_succ, List.setIfInBounds_toArray, List.set_cons_zero, List.set_cons_succ]
        refine wpAnyH_take (i := 12) (v := ?_) rfl (by kernel_rfl) (by kernel_rfl) (by kernel_rfl) (fun _ _ _ h => h) (Or.inl ⟨by rfl, ?_⟩) hHeld ?_
        rotate_left
        · intro w hSw; (try dsimp only at hSw); go_simp; (try with_reducible rfl)
        try simp only [Act.put, List.getElem_toArray, List.getElem_cons_zero, List.getElem_cons_succ, List.setIfInBounds_toArray, List.set_cons_zero, List.set_cons_succ]
        refine wpAnyH_take (i := 13) (v := ?_) rfl (by kernel_rfl) (by kernel_rfl) (by kernel_rfl) (fun _ _ _ h => h) (Or.inl ⟨by rfl, ?_⟩) hHeld ?_
        rotate_left
        · intro w hSw; (try dsimp only at hSw); go_simp; (try with_reducible rfl)
        try simp only [Act.put, List.getElem_toArray, List.getElem_cons_zero, List.getElem_cons_succ, List.setIfInBounds_toArray, List.set_cons_zero, List.set_cons_succ]
        refine wpAnyH_take (i := 14) (v := ?_) rfl (by kernel_rfl) (by kernel_rfl) (by kernel_rfl) (fun _ _ _ h => h) (Or.inl ⟨by rfl, ?_⟩) hHeld ?_
        rotate_left
        · intro w hSw; (try dsimp only at hSw); go_simp; (try with_reducible rfl)
        try simp only [Act.put, List.getElem_toArray, List.getElem_cons_zero, List.getElem_cons_succ, List.setIfInBounds_toArray, List.set_cons_zero, List.set_cons_succ]
        refine wpAnyH_take (i := 15) (v := ?_) rfl (by kernel_rfl) (by kernel_rfl) (by kernel_rfl) (fun _ _ _ h => h) (Or.inl ⟨by rfl, ?_⟩) hHeld ?_
        rotate_left
        · intro w hSw; (try dsimp only at hSw); go_simp; (try with_reducible rfl)
        try simp only [Act.put, List.getElem_toArray, List.getElem_cons_zero, List.getElem_cons_succ, List.setIfInBounds_toArray, List.set_cons_zero, List.set_cons_succ]
        refine wpAnyH_ready (rs := [3, 16]) (by kernel_rfl) (by simp) ?_
        refine AllReadyH.cons rfl (fun K hK => ?_) ?_
        · go_simp
          refine hK.out _ _ (by first | exact hHeld | go_keep) (fun hHeld => ?_)
          clear hK K
          try simp only [Act.put, List.getElem_toArray, List.getElem_cons_zero, List.getElem_cons_succ, List.setIfInBounds_toArray, List.set_cons_zero, List.set_cons_succ]
          refine wpAnyH_ready (rs := [4, 16]) (by kernel_rfl) (by simp) ?_
          refine AllReadyH.cons rfl (fun K hK => ?_) ?_
          · go_simp
            first | (rw [hconv ((w.drewN (d + q2 + 1)).alloc (.cells #[.int .u8 (48 + (k : Int))] 5)) w.heap.size (by exact cell_new (w.drewN _) _ _)]; go_simp) | skip
            refine hK.out _ _ (by first | exact hHeld | go_keep) (fun hHeld => ?_)
            clear hK K
            try simp only [Act.put, List.getElem_toArray, List.getElem_cons_zero, List.getElem_cons_succ, List.setIfInBounds_toArray, List.set_cons_zero, List.set_cons_succ]
            refine wpAnyH_ready (rs := [16]) (by kernel_rfl) (by simp) ?_
            refine AllReadyH.cons rfl (fun K hK => ?_) AllReadyH.nil
            go_simp
            (go_at_call 51; refine (HTR.out _ (HRF.out _ (by exact ((show Below w.heap.size w (w.drewN (d + q2 + 1)) from ⟨rfl, rfl, rfl, Nat.le_refl _, fun _ _ => rfl⟩).alloc (Nat.le_refl _) _)))).mono ?_; rintro e w3 ⟨rfl, hb3⟩)
            have hcb := hb3.cell (p := ⟨cb, 0, none⟩) (by simp; omega)
            have hcg := hb3.cell (p := ⟨g, k * 3 + 1, none⟩) (by simp; omega)
            have hcn := hb3.cell (p := ⟨w.heap.size, 0, none⟩) (by simp)
            refine hK.out _ _ (by first | exact hHeld | go_keep) (fun hHeld => ?_)
            clear hK K
            try simp only [Act.put, List.getElem_toArray, List.getElem_cons_zero, List.getElem_cons_succ, List.setIfInBounds_toArray, List.set_cons_zero, List.set_cons_succ]
            refine wpAnyH_take (i := 17) (v := ?_) rfl (by kernel_rfl) (by kernel_rfl) (by kernel_rfl) (fun _ _ _ h => h) (Or.inl ⟨by rfl, ?_⟩) hHeld ?_
            rotate_left
            · intro w hSw; (try dsimp only at hSw); go_simp; (try with_reducible rfl)
            try simp only [Act.put, List.getElem_toArray, List.getElem_cons_zero, List.getElem_cons_succ, List.setIfInBounds_toArray, List.set_cons_zero, List.set_cons_succ]
            refine wpAnyH_take (i := 18) (v := ?_) rfl (by kernel_rfl) (by kernel_rfl) (by kernel_rfl) (fun _ _ _ h => h) (Or.inl ⟨by rfl, ?_⟩) hHeld ?_
            rotate_left
            · intro w hSw; (try dsimp only at hSw); go_simp; (try with_reducible rfl)
            try simp only [Act.put, List.getElem_toArray, List.getElem_cons_zero, List.getElem_cons_succ, List.setIfInBounds_toArray, List.set_cons_zero, List.set_cons_succ]
            refine wpAnyH_done (by kernel_rfl) ?_ _
            try refine NoPanic.normal ?_
            go_wp2_with fail
            go_ret
            exact ⟨by rw [← hout.out]; rfl, (((show Below w.heap.size w (w.drewN (d + q2 + 1)) from ⟨rfl, rfl, rfl, Nat.le_refl _, fun _ _ => rfl⟩).alloc (Nat.le_refl _) _).trans (hb3.mono (by simp)))⟩
          refine AllReadyH.cons rfl (fun K hK => ?_) AllReadyH.nil
          go_simp
          (go_at_call 51; refine (HTR.out _ (HRF.out _ (by exact ((show Below w.heap.size w (w.drewN (d + q2 + 1)) from ⟨rfl, rfl, rfl, Nat.le_refl _, fun _ _ => rfl⟩).alloc (Nat.le_refl _) _)))).mono ?_; rintro e w3 ⟨rfl, hb3⟩)
          have hcb := hb3.cell (p := ⟨cb, 0, none⟩) (by simp; omega)
          have hcg := hb3.cell (p := ⟨g, k * 3 + 1, none⟩) (by simp; omega)
          have hcn := hb3.cell (p := ⟨w.heap.size, 0, none⟩) (by simp)
          refine hK.out _ _ (by first | exact hHeld | go_keep) (fun hHeld => ?_)
          clear hK K
          try simp only [Act.put, List.getElem_toArray, List.getElem_cons_zero, List.getElem_cons_succ, List.setIfInBounds_toArray, List.set_cons_zero, List.set_cons_succ]
          refine wpAnyH_ready (rs := [4]) (by kernel_rfl) (by simp) ?_
          refine AllReadyH.cons rfl (fun K hK => ?_) AllReadyH.nil
          go_simp
          first | (rw [hconv w3 w.heap.size (by rw [hcn]; exact cell_new (w.drewN _) _ _)]; go_simp) | skip
          refine hK.out _ _ (by first | exact hHeld | go_keep) (fun hHeld => ?_)
          clear hK K
          try simp only [Act.put, List.getElem_toArray, List.getElem_cons_zero, List.getElem_cons_succ, List.setIfInBounds_toArray, List.set_cons_zero, List.set_cons_succ]
          refine wpAnyH_take (i := 17) (v := ?_) rfl (by kernel_rfl) (by kernel_rfl) (by kernel_rfl) (fun _ _ _ h => h) (Or.inl ⟨by rfl, ?_⟩) hHeld ?_
          rotate_left
          · intro w hSw; (try dsimp only at hSw); go_simp; (try with_reducible rfl)
          try simp only [Act.put, List.getElem_toArray, List.getElem_cons_zero, List.getElem_cons_succ, List.setIfInBounds_toArray, List.set_cons_zero, List.set_cons_succ]
          refine wpAnyH_take (i := 18) (v := ?_) rfl (by kernel_rfl) (by kernel_rfl) (by kernel_rfl) (fun _ _ _ h => h) (Or.inl ⟨by rfl, ?_⟩) hHeld ?_
          rotate_left
          · intro w hSw; (try dsimp only at hSw); go_simp; (try with_reducible rfl)
          try simp only [Act.put, List.getElem_toArray, List.getElem_cons_zero, List.getElem_cons_succ, List.setIfInBounds_toArray, List.set_cons_zero, List.set_cons_succ]
          refine wpAnyH_done (by kernel_rfl) ?_ _
          try refine NoPanic.normal ?_
          go_wp2_with fail
          go_ret
          exact ⟨by rw [← hout.out]; rfl, (((show Below w.heap.size w (w.drewN (d + q2 + 1)) from ⟨rfl, rfl, rfl, Nat.le_refl _, fun _ _ => rfl⟩).alloc (Nat.le_refl _) _).trans (hb3.mono (by simp)))⟩
        refine AllReadyH.cons rfl (fun K hK => ?_) AllReadyH.nil
        go_simp
        (go_at_call 51; refine (HTR.out _ (HRF.out _ (by exact ⟨rfl, rfl, rfl, Nat.le_refl _, fun _ _ => rfl⟩))).mono ?_; rintro e w3 ⟨rfl, hb3⟩)
        have hcb := hb3.cell (p := ⟨cb, 0, none⟩) (by simp; omega)
        have hcg := hb3.cell (p := ⟨g, k * 3 + 1, none⟩) (by simp; omega)
        refine hK.out _ _ (by first | exact hHeld | go_keep) (fun hHeld => ?_)
        clear hK K
        try simp only [Act.put, List.getElem_toArray, List.getElem_cons_zero, List.getElem_cons_succ, List.setIfInBounds_toArray, List.set_cons_zero, List.set_cons_succ]
        refine wpAnyH_ready (rs := [3]) (by kernel_rfl) (by simp) ?_
        refine AllReadyH.cons rfl (fun K hK => ?_) AllReadyH.nil
        go_simp
        refine hK.out _ _ (by first | exact hHeld | go_keep) (fun hHeld => ?_)
        clear hK K
        try simp only [Act.put, List.getElem_toArray, List.getElem_cons_zero, List.getElem_cons_succ, List.setIfInBounds_toArray, List.set_cons_zero, List.set_cons_succ]
        refine wpAnyH_ready (rs := [4]) (by kernel_rfl) (by simp) ?_
        refine AllReadyH.cons rfl (fun K hK => ?_) AllReadyH.nil
        go_simp
        first | (rw [hconv (w3.alloc (.cells #[.int .u8 (48 + (k : Int))] 5)) w3.heap.size (by exact cell_new w3 _ _)]; go_simp) | skip
        refine hK.out _ _ (by first | exact hHeld | go_keep) (fun hHeld => ?_)
        clear hK K
        try simp only [Act.put, List.getElem_toArray, List.getElem_cons_zero, List.getElem_cons_succ, List.setIfInBounds_toArray, List.set_cons_zero, List.set_cons_succ]
        refine wpAnyH_take (i := 17) (v := ?_) rfl (by kernel_rfl) (by kernel_rfl) (by kernel_rfl) (fun _ _ _ h => h) (Or.inl ⟨by rfl, ?_⟩) hHeld ?_
        rotate_left
        · intro w hSw; (try dsimp only at hSw); go_simp; (try with_reducible rfl)
        try simp only [Act.put, List.getElem_toArray, List.getElem_cons_zero, List.getElem_cons_succ, List.setIfInBounds_toArray, List.set_cons_zero, List.set_cons_succ]
        refine wpAnyH_take (i := 18) (v := ?_) rfl (by kernel_rfl) (by kernel_rfl) (by kernel_rfl) (fun _ _ _ h => h) (Or.inl ⟨by rfl, ?_⟩) hHeld ?_
        rotate_left
        · intro w hSw; (try dsimp only at hSw); go_simp; (try with_reducible rfl)
        try simp only [Act.put, List.getElem_toArray, List.getElem_cons_zero, List.getElem_cons_succ, List.setIfInBounds_toArray, List.set_cons_zero, List.set_cons_succ]
        refine wpAnyH_done (by kernel_rfl) ?_ _
        try refine NoPanic.normal ?_
        go_wp2_with fail
        go_ret
        exact ⟨by rw [← hout.out]; rfl, (show Below w.heap.size w w3 from ⟨hb3.os, hb3.tape, hb3.output, hb3.size, hb3.block⟩).alloc hb3.size _⟩
      · by_cases hcc : Pu.byt s R[k].1 = c
        · have h0 := HFO.out hkr' hcc
          rw [h0] at HFk
          rw [hcc] at f0
          clear HFO HFR HOT HTR hval hw1 hlen h0 hcc hnm
          generalize sub s (R[k].1 + 2) R[k].2 = t at *
          go_wp2_with (go_at_call 50; refine (HFk.out _ (HRF.out _ (by exact ⟨rfl, rfl, rfl, Nat.le_refl _, fun _ _ => rfl⟩))).mono ?_; rintro e w2 ⟨rfl, q2, rfl⟩)
          go_roundg (R.length + 1 - (k + 1))
          case measure => omega
          case rel => exact ⟨k + 1, _, by go_num, by omega, rfl, rfl⟩
        · have e1 : ((Pu.byt s R[k].1 : Int) == (c : Int)) = false := by simp; omega
          clear HFO HFR HOT HTR hval hw1 hlen hnm HFk
          generalize Pu.byt s R[k].1 = x at *
          go_wp2_with fail
          go_roundg (R.length + 1 - (k + 1))
          case measure => omega
          case rel => exact ⟨k + 1, _, by go_num, by omega, rfl, rfl⟩
end Go.Proofs.YthmbbiahnfpoeaaDoor
