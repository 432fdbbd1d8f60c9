import Derived.Test.YthmbbiahnfpoeaaDoorSeen
import Derived.WalkKit
import Derived.WalkSpells
import Derived.WalkSmall
import Derived.BigQuiet
import Derived.Deep.QuietTactic
import Derived.Deep.RegionWith
import Derived.Deep.LoopGhost
import Derived.Deep.RegionHeld3
import Derived.Deep.DeepCutAuto
namespace Go.Proofs.YthmbbiahnfpoeaaDoor
open Go.RowKit

theorem ChartAt.heap {w w' : World} {cb top base n : Nat} {lv : Value} {v : ByteArray} {N : Nat → Nat → Nat → Nat} (h : ChartAt w cb top base n lv v N) (e : w'.heap = w.heap) : ChartAt w' cb top base n lv v N :=
  ⟨by rw [e]; exact h.blk, h.cube.kept fun b _ => by rw [e]⟩
theorem Mid.like {w V V' : World} {cb top base top2 n : Nat} {lv : Value} {v : ByteArray} {N M : Nat → Nat → Nat → Nat} (h : Mid w V cb top base top2 n lv v N M) (hb : Below V.heap.size V V') : Mid w V' cb top base top2 n lv v N M :=
  ⟨h.ch.below hb, h.nx.below hb, h.bel.trans (hb.mono h.bel.size), h.cbw, h.far⟩
theorem chart_new {w w1 : World} {lv : Value} {v : ByteArray} {n : Nat} (hb : Below (w.alloc (.cells #[lv, .string v, .slice none 0 0] 69)).heap.size (w.alloc (.cells #[lv, .string v, .slice none 0 0] 69)) w1)
    (hc : Cube w1 (w.alloc (.cells #[lv, .string v, .slice none 0 0] 69)).heap.size ((w.alloc (.cells #[lv, .string v, .slice none 0 0] 69)).heap.size + 1) 26 n (fun _ _ _ => 0)) :
    w1.cell? ⟨w.heap.size, 2, none⟩ = some (.slice none 0 0) ∧ w1.frozen? ⟨w.heap.size, 2, none⟩ = false ∧
    Below w.heap.size w (w1.setCell ⟨w.heap.size, 2, none⟩ (.slice (some ⟨w.heap.size + 1, 0, none⟩) 26 26)) ∧
    ChartAt (w1.setCell ⟨w.heap.size, 2, none⟩ (.slice (some ⟨w.heap.size + 1, 0, none⟩) 26 26)) w.heap.size (w.heap.size + 1) (w.heap.size + 2) n lv v (fun _ _ _ => 0) := by
  have hblk : w1.heap[w.heap.size]? = some (.cells #[lv, .string v, .slice none 0 0] 69 (0, 0)) := by
    rw [hb.block _ (by simp)]; exact heap_alloc_new w _
  simp only [World.size_alloc] at hc
  refine ⟨by simp [World.cell?, hblk], by simp [World.frozen?, hblk], ?_, ?_, ?_⟩
  · exact (((Below.refl _ _).alloc (Nat.le_refl _) _).trans (hb.mono (by simp))).setCell (Nat.le_refl _) _
  · show (w1.heap.modify w.heap.size _)[w.heap.size]? = _
    rw [Array.getElem?_modify, if_pos rfl, hblk]; rfl
  · exact hc.kept fun b hb' => Below.heap_setCell _ _ _ _ (by show b ≠ w.heap.size; omega)

set_option linter.unusedSimpArgs false in
set_option maxRecDepth 100000 in
set_option maxHeartbeats 2000000 in
theorem Count_any (s v : ByteArray) (R : List (Nat × Nat)) (g cap : Nat) (w : World) (hR : RulesAt w g s R) (hg : g < w.heap.size) (hG : Pu.Good s R) (hS : Pu.Signed s R) (hn : R.length ≤ 8) (hv : v.size ≤ 24) :
    Calls Tryd.prog 29 #[.slice (some ⟨g, 0, none⟩) R.length cap, .string v] w fun e w' => e = .returned (.pointer (some ⟨w.heap.size, 0, none⟩)) ∧ Below w.heap.size w w' ∧
      ∃ m top base, ChartAt w' w.heap.size top base v.size (.slice (some ⟨g, 0, none⟩) R.length cap) v (Pu.lvl v s R m) ∧ Pu.Cnt v s R v.size (Pu.lvl v s R m) := by
  have HR := hide hR
  have HG := hide hG
  have HS := hide hS
  clear hR hG hS
  have gb := hide (fun w => blank_any v.size w hv)
  go_enter Tryd.func29, Tryd.ntmps29
  go_wp2_with (go_at_call 48; refine (gb.out _).mono ?_; rintro e w1 ⟨rfl, hb1, hc1⟩; obtain ⟨k1, k2, k3, k4⟩ := chart_new hb1 hc1; clear hb1 hc1)
  clear k1 k2
  generalize hV : w1.setCell ⟨w.heap.size, 2, none⟩ (.slice (some ⟨w.heap.size + 1, 0, none⟩) 26 26) = V1 at *
  clear hV w1
  obtain ⟨lv, hlv⟩ : ∃ lv, lv = Value.slice (some ⟨g, 0, none⟩) R.length cap := ⟨_, rfl⟩
  rw [← hlv] at k4
  have HLV := aside_of hlv
  clear hlv
  go_loopg [6] (2 * Pu.room v s R v.size 0 + 1) (fun q av V => ∃ (m top base : Nat) (b : Bool), av = .bool b ∧ q = 2 * Pu.room v s R v.size m + b.toNat ∧ ChartAt V w.heap.size top base v.size lv v (Pu.lvl v s R m) ∧ Below w.heap.size w V ∧ (b = false → Pu.Cnt v s R v.size (Pu.lvl v s R m)))
  case atStart => exact ⟨0, _, _, true, rfl, rfl, k4, k3, fun h => by cases h⟩
  case round =>
    clear k3 k4
    obtain ⟨m, top, base, b, rfl, rfl, hC, hbe, hfix⟩ := hrel
    cases b with
    | false =>
      have HF := aside_of (hfix rfl)
      clear hfix
      go_wp2_with fail
      go_ret
      exact ⟨rfl, hbe, m, top, base, by rw [HLV.out] at hC; exact hC, HF.out⟩
    | true =>
      clear hfix
      go_wp2_with (go_at_call 48; refine (gb.out _).mono ?_; rintro e w1 ⟨rfl, hb1, hc1⟩)
      have hM0 := Mid.start hC hbe (Nat.le_refl _) hb1 hc1
      clear hb1 hc1
      generalize wr.heap.size = top2 at *
      clear hC hbe wr
      have HN := hide (Pu.lvl_two v s R m)
      go_loopg [8] (R.length + 1) (fun q rv V => ∃ r : Nat, rv = .int .i64 r ∧ r ≤ R.length ∧ q = R.length + 1 - r ∧ Mid w V w.heap.size top base top2 v.size lv v (Pu.lvl v s R m) (Pu.part (Pu.lvl v s R m) v s R r 0 0))
      case atStart => exact ⟨0, rfl, Nat.zero_le _, rfl, hM0.congr fun c i j _ _ => (Pu.part_zero _ _ _ _ c i j).symm⟩
      case round =>
        clear hM0
        obtain ⟨r, rfl, hr, rfl, hM⟩ := hrel
        by_cases hrl : r < R.length
        · obtain ⟨h65, h90, hr1, hr2⟩ := HG.out R[r] (List.getElem_mem hrl)
          obtain ⟨hr5, hsg⟩ := HS.out R[r] (List.getElem_mem hrl)
          obtain ⟨c, hc⟩ : ∃ c, c = Pu.byt s R[r].1 := ⟨_, rfl⟩
          obtain ⟨t, ht⟩ : ∃ t, t = sub s (R[r].1 + 2) R[r].2 := ⟨_, rfl⟩
          obtain ⟨W, hW⟩ : ∃ W, W = Pu.ways (Pu.lvl v s R m) v s (R[r].2 - (R[r].1 + 2)) (R[r].1 + 2) := ⟨_, rfl⟩
          obtain ⟨P, hP⟩ : ∃ P, P = Pu.part (Pu.lvl v s R m) v s R r := ⟨_, rfl⟩
          have HC : Hid (∀ V, Below w.heap.size w V → V.cell? ⟨g, r * 3, none⟩ = some (.int .u8 c) ∧ V.cell? ⟨g, r * 3 + 1, none⟩ = some (.string t)) := fun V hb => by
            have := (HR.out.below hb hg) r hrl
            rw [hc, ht]; exact ⟨this.1, this.2.1⟩
          have HPS : Hid (∀ i j, i ≤ j → ∀ c' i' j', P i (j + 1) c' i' j' = if c' = c ∧ i' = i ∧ j' = j then min 2 (P i j c i j + W i j) else P i j c' i' j') := fun i j h c' i' j' => by
            rw [hP, hW, hc]; exact Pu.part_step hrl h c' i' j'
          have HPR : Hid (∀ i c' i' j', j' ≤ v.size → P i (v.size + 1) c' i' j' = P (i + 1) (i + 1) c' i' j') := fun i c' i' j' h => by
            rw [hP]; exact Pu.part_row c' i' j' h
          have HPN : Hid (∀ c' i' j', i' ≤ v.size → P (v.size + 1) (v.size + 1) c' i' j' = Pu.part (Pu.lvl v s R m) v s R (r + 1) 0 0 c' i' j') := fun c' i' j' h => by
            rw [hP]; exact Pu.part_rule c' i' j' h
          have HPL : Hid (∀ i j c' i' j', P i j c' i' j' ≤ 2) := fun i j c' i' j' => by rw [hP]; exact Pu.part_le _ _ _ _ _ _ _ _ _ _
          have HWL : Hid (∀ i j, W i j ≤ 2) := fun i j => by rw [hW]; exact Pu.ways_le _ _ _ _ _ _ _
          have HFr : Hid (∀ i j V, i ≤ j → j ≤ v.size → ChartAt V w.heap.size top base v.size lv v (Pu.lvl v s R m) → Calls Tryd.prog 50 #[.pointer (some ⟨w.heap.size, 0, none⟩), .string t, .int .i64 i, .int .i64 j] V fun e w' => e = .returned (.int .i64 ↑(W i j)) ∧ ∃ q, w' = V.drewN q) := fun i j V h1 h2 h3 => by
            have hsz := size_sub (s := s) (a := R[r].1 + 2) hr2
            have := from_any w.heap.size top base lv v (Pu.lvl v s R m) hv HN.out (R[r].2 - (R[r].1 + 2)) t i j V (by rw [ht]; exact hsz) (by omega) (fun a ha => by rw [ht] at ha ⊢; rw [hsz] at ha; rw [byt_sub hr2 ha]; exact hsg _ (by omega) (by omega)) h1 h2 h3
            rw [ht, ways_sub hr2 _ _ _ _ (by omega)] at this
            rw [ht, hW]; exact this
          have hM' : Mid w wr w.heap.size top base top2 v.size lv v (Pu.lvl v s R m) (P 0 0) := by rw [hP]; exact hM
          rw [← hc] at h65 h90
          have c0 := (HC.out wr hM.bel).1
          clear hM hc ht hW hP hr1 hr2 hr5 hsg
          have e65 : (65 : Int) ≤ (c : Int) := by omega
          have e90 : (c : Int) ≤ 90 := by omega
          have hk26 : c - 65 < 26 := by omega
          go_wp2_with fail
          clear c0
          go_loopg [10] (v.size + 2) (fun q iv V => ∃ i : Nat, iv = .int .i64 i ∧ i ≤ v.size + 1 ∧ q = v.size + 2 - i ∧ Mid w V w.heap.size top base top2 v.size lv v (Pu.lvl v s R m) (P i i))
          case atStart => exact ⟨0, rfl, Nat.zero_le _, rfl, hM'⟩
          case round =>
            clear hM'
            obtain ⟨i, rfl, hi, rfl, hM⟩ := hrel
            by_cases hil : i ≤ v.size
            · go_wp2_with fail
              go_loopg [11] (v.size + 2 - i) (fun q jv V => ∃ j : Nat, jv = .int .i64 j ∧ i ≤ j ∧ j ≤ v.size + 1 ∧ q = v.size + 2 - j ∧ Mid w V w.heap.size top base top2 v.size lv v (Pu.lvl v s R m) (P i j))
              case atStart => exact ⟨i, rfl, Nat.le_refl _, by omega, rfl, hM⟩
              case round =>
                clear hM
                obtain ⟨j, rfl, hij, hj, rfl, hM⟩ := hrel
                by_cases hjl : j ≤ v.size
                · have HST : Hid (∀ V, Below wr.heap.size wr V → Mid w (V.setCell ⟨tb (top2 + 1) v.size (c - 65) + (i + 1), j, none⟩ (.int .i64 ↑(min 2 (P i j c i j + W i j)))) w.heap.size top base top2 v.size lv v (Pu.lvl v s R m) (P i (j + 1))) := fun V hV => ((hM.like hV).set (x := min 2 (P i j c i j + W i j)) h65 h90 hil hjl).congr (M' := P i (j + 1)) (fun c' i' j' _ _ => (HPS.out i j hij c' i' j').symm)
                  have d1 : wr.cell? ⟨top2, ((c : Int) - 65).toNat, none⟩ = some (.slice (some ⟨tb (top2 + 1) v.size (c - 65), 0, none⟩) (v.size + 1) (v.size + 1)) := by rw [show ((c : Int) - 65).toNat = c - 65 by omega]; exact hM.nx.c1 hk26
                  have d2 := hM.nx.c2 hk26 hil
                  have d3 := hM.nx.c3 hk26 hil hjl
                  have d4 := hM.nx.frozen hk26 hil j
                  have d5 := (HC.out wr hM.bel).2
                  simp only [show 65 + (c - 65) = c by omega] at d3
                  have f1 := hM.far.1
                  have hge := tb_ge (top2 + 1) v.size (c - 65)
                  have HFj := hide (fun V (e : V.heap = wr.heap) => HFr.out i j V hij hjl (hM.ch.heap e))
                  have hx1 := HPL.out i j c i j
                  have hx2 := HWL.out i j
                  clear hM
                  generalize tb (top2 + 1) v.size (c - 65) = tk at *
                  generalize P i j c i j = x at *
                  generalize W i j = y at *
                  have hwr : IntKind.i64.wrap ((x : Int) + (y : Int)) = (x : Int) + (y : Int) := by rw [IntKind.wrap_i64]; omega
                  have g1 : ¬ top2 = tk + (i + 1) := by omega
                  have g2 : ¬ tk + (i + 1) = top2 := by omega
                  have g3 : ¬ g = tk + (i + 1) := by omega
                  have g4 : ¬ tk + (i + 1) = g := by omega
                  have b1 : (0 : Int) ≤ (i : Int) := by omega
                  have b2 : (i : Int) < (v.size : Int) + 1 := by omega
                  have b3 : (0 : Int) ≤ (j : Int) := by omega
                  have b4 : (j : Int) < (v.size : Int) + 1 := by omega
                  have b5 : (j : Int) ≤ (v.size : Int) := by omega
                  have b6 : (0 : Int) ≤ (c : Int) - 65 := by omega
                  have b7 : (c : Int) - 65 < 26 := by omega
                  have b8 : (0 : Int) ≤ (r : Int) := by omega
                  have b9 : (r : Int) < (R.length : Int) := by omega
                  go_wp2_with fail
                  refine wp_region_held_drew (S := (fun w' => w'.cell? ⟨top2, ((c : Int) - 65).toNat, none⟩ = some (.slice (some ⟨tk, 0, none⟩) (v.size + 1) (v.size + 1)) ∧ w'.cell? ⟨tk, i, none⟩ = some (.slice (some ⟨tk + (i + 1), 0, none⟩) (v.size + 1) (v.size + 1)) ∧ w'.cell? ⟨g, r * 3 + 1, none⟩ = some (.string t))) (by kernel_rfl) (by go_keep) (fun hHeld => ?_)
                  refine wpAnyH_take (i := 0) (v := ?_) rfl (by kernel_rfl) (by kernel_rfl) (by kernel_rfl) (fun _ _ _ h => h) (Or.inl ⟨by rfl, ?_⟩) hHeld ?_
                  rotate_left
                  · intro w hSw; (try dsimp only at hSw); go_simp; (try with_reducible rfl)
                  try simp only [Act.put, List.getElem_toArray, List.getElem_cons_zero, List.getElem_cons_succ, List.setIfInBounds_toArray, List.set_cons_zero, List.set_cons_succ]
                  refine wpAnyH_take (i := 1) (v := ?_) rfl (by kernel_rfl) (by kernel_rfl) (by kernel_rfl) (fun _ _ _ h => h) (Or.inl ⟨by rfl, ?_⟩) hHeld ?_
                  rotate_left
                  · intro w hSw; (try dsimp only at hSw); go_simp; (try with_reducible rfl)
                  try simp only [Act.put, List.getElem_toArray, List.getElem_cons_zero, List.getElem_cons_succ, List.setIfInBounds_toArray, List.set_cons_zero, List.set_cons_succ]
                  refine wpAnyH_take (i := 2) (v := ?_) rfl (by kernel_rfl) (by kernel_rfl) (by kernel_rfl) (fun _ _ _ h => h) (Or.inl ⟨by rfl, ?_⟩) hHeld ?_
                  rotate_left
                  · intro w hSw; (try dsimp only at hSw); go_simp; (try with_reducible rfl)
                  try simp only [Act.put, List.getElem_toArray, List.getElem_cons_zero, List.getElem_cons_succ, List.setIfInBounds_toArray, List.set_cons_zero, List.set_cons_succ]
                  refine wpAnyH_take (i := 3) (v := ?_) rfl (by kernel_rfl) (by kernel_rfl) (by kernel_rfl) (fun _ _ _ h => h) (Or.inl ⟨by rfl, ?_⟩) hHeld ?_
                  rotate_left
                  · intro w hSw; (try dsimp only at hSw); go_simp; (try with_reducible rfl)
                  try simp only [Act.put, List.getElem_toArray, List.getElem_cons_zero, List.getElem_cons_succ, List.setIfInBounds_toArray, List.set_cons_zero, List.set_cons_succ]
                  refine wpAnyH_take (i := 4) (v := ?_) rfl (by kernel_rfl) (by kernel_rfl) (by kernel_rfl) (fun _ _ _ h => h) (Or.inl ⟨by rfl, ?_⟩) hHeld ?_
                  rotate_left
                  · intro w hSw; (try dsimp only at hSw); go_simp; (try with_reducible rfl)
                  try simp only [Act.put, List.getElem_toArray, List.getElem_cons_zero, List.getElem_cons_succ, List.setIfInBounds_toArray, List.set_cons_zero, List.set_cons_succ]
                  refine wpAnyH_take (i := 5) (v := ?_) rfl (by kernel_rfl) (by kernel_rfl) (by kernel_rfl) (fun _ _ _ h => h) (Or.inl ⟨by rfl, ?_⟩) hHeld ?_
                  rotate_left
                  · intro w hSw; (try dsimp only at hSw); go_simp; (try with_reducible rfl)
                  try simp only [Act.put, List.getElem_toArray, List.getElem_cons_zero, List.getElem_cons_succ, List.setIfInBounds_toArray, List.set_cons_zero, List.set_cons_succ]
                  refine wpAnyH_take (i := 6) (v := ?_) rfl (by kernel_rfl) (by kernel_rfl) (by kernel_rfl) (fun _ _ _ h => h) (Or.inl ⟨by rfl, ?_⟩) hHeld ?_
                  rotate_left
                  · intro w hSw; (try dsimp only at hSw); go_simp; (try with_reducible rfl)
                  try simp only [Act.put, List.getElem_toArray, List.getElem_cons_zero, List.getElem_cons_succ, List.setIfInBounds_toArray, List.set_cons_zero, List.set_cons_succ]
                  refine wpAnyH_take (i := 7) (v := ?_) rfl (by kernel_rfl) (by kernel_rfl) (by kernel_rfl) (fun _ _ _ h => h) (Or.inl ⟨by rfl, ?_⟩) hHeld ?_
                  rotate_left
                  · intro w hSw; (try dsimp only at hSw); go_simp; (try with_reducible rfl)
                  try simp only [Act.put, List.getElem_toArray, List.getElem_cons_zero, List.getElem_cons_succ, List.setIfInBounds_toArray, List.set_cons_zero, List.set_cons_succ]
                  refine wpAnyH_take (i := 8) (v := ?_) rfl (by kernel_rfl) (by kernel_rfl) (by kernel_rfl) (fun _ _ _ h => h) (Or.inl ⟨by rfl, ?_⟩) hHeld ?_
                  rotate_left
                  · intro w hSw; (try dsimp only at hSw); go_simp; (try with_reducible rfl)
                  try simp only [Act.put, List.getElem_toArray, List.getElem_cons_zero, List.getElem_cons_succ, List.setIfInBounds_toArray, List.set_cons_zero, List.set_cons_succ]
                  refine wpAnyH_take (i := 9) (v := ?_) rfl (by kernel_rfl) (by kernel_rfl) (by kernel_rfl) (fun _ _ _ h => h) (Or.inl ⟨by rfl, ?_⟩) hHeld ?_
                  rotate_left
                  · intro w hSw; (try dsimp only at hSw); go_simp; (try with_reducible rfl)
                  try simp only [Act.put, List.getElem_toArray, List.getElem_cons_zero, List.getElem_cons_succ, List.setIfInBounds_toArray, List.set_cons_zero, List.set_cons_succ]
                  refine wpAnyH_take (i := 10) (v := ?_) rfl (by kernel_rfl) (by kernel_rfl) (by kernel_rfl) (fun _ _ _ h => h) (Or.inl ⟨by rfl, ?_⟩) hHeld ?_
                  rotate_left
                  · intro w hSw; (try dsimp only at hSw); go_simp; (try with_reducible rfl)
                  try simp only [Act.put, List.getElem_toArray, List.getElem_cons_zero, List.getElem_cons_succ, List.setIfInBounds_toArray, List.set_cons_zero, List.set_cons_succ]
                  refine wpAnyH_take (i := 11) (v := ?_) rfl (by kernel_rfl) (by kernel_rfl) (by kernel_rfl) (fun _ _ _ h => h) (Or.inl ⟨by rfl, ?_⟩) hHeld ?_
                  rotate_left
                  · intro w hSw; (try dsimp only at hSw); go_simp; (try with_reducible rfl)
                  try simp only [Act.put, List.getElem_toArray, List.getElem_cons_zero, List.getElem_cons_succ, List.setIfInBounds_toArray, List.set_cons_zero, List.set_cons_succ]
                  refine wpAnyH_take (i := 12) (v := ?_) rfl (by kernel_rfl) (by kernel_rfl) (by kernel_rfl) (fun _ _ _ h => h) (Or.inl ⟨by rfl, ?_⟩) hHeld ?_
                  rotate_left
                  · intro w hSw; (try dsimp only at hSw); go_simp; (try with_reducible rfl)
                  try simp only [Act.put, List.getElem_toArray, List.getElem_cons_zero, List.getElem_cons_succ, List.setIfInBounds_toArray, List.set_cons_zero, List.set_cons_succ]
                  refine wpAnyH_take (i := 13) (v := ?_) rfl (by kernel_rfl) (by kernel_rfl) (by kernel_rfl) (fun _ _ _ h => h) (Or.inl ⟨by rfl, ?_⟩) hHeld ?_
                  rotate_left
                  · intro w hSw; (try dsimp only at hSw); go_simp; (try with_reducible rfl)
                  try simp only [Act.put, List.getElem_toArray, List.getElem_cons_zero, List.getElem_cons_succ, List.setIfInBounds_toArray, List.set_cons_zero, List.set_cons_succ]
                  refine wpAnyH_take (i := 14) (v := ?_) rfl (by kernel_rfl) (by kernel_rfl) (by kernel_rfl) (fun _ _ _ h => h) (Or.inl ⟨by rfl, ?_⟩) hHeld ?_
                  rotate_left
                  · intro w hSw; (try dsimp only at hSw); go_simp; (try with_reducible rfl)
                  try simp only [Act.put, List.getElem_toArray, List.getElem_cons_zero, List.getElem_cons_succ, List.setIfInBounds_toArray, List.set_cons_zero, List.set_cons_succ]
                  refine wpAnyH_take (i := 15) (v := ?_) rfl (by kernel_rfl) (by kernel_rfl) (by kernel_rfl) (fun _ _ _ h => h) (Or.inl ⟨by rfl, ?_⟩) hHeld ?_
                  rotate_left
                  · intro w hSw; (try dsimp only at hSw); go_simp; (try with_reducible rfl)
                  try simp only [Act.put, List.getElem_toArray, List.getElem_cons_zero, List.getElem_cons_succ, List.setIfInBounds_toArray, List.set_cons_zero, List.set_cons_succ]
                  refine wpAnyH_take (i := 16) (v := ?_) rfl (by kernel_rfl) (by kernel_rfl) (by kernel_rfl) (fun _ _ _ h => h) (Or.inl ⟨by rfl, ?_⟩) hHeld ?_
                  rotate_left
                  · intro w hSw; (try dsimp only at hSw); go_simp; (try with_reducible rfl)
                  try simp only [Act.put, List.getElem_toArray, List.getElem_cons_zero, List.getElem_cons_succ, List.setIfInBounds_toArray, List.set_cons_zero, List.set_cons_succ]
                  refine wpAnyH_take (i := 18) (v := ?_) rfl (by kernel_rfl) (by kernel_rfl) (by kernel_rfl) (fun _ _ _ h => h) (Or.inl ⟨by rfl, ?_⟩) hHeld ?_
                  rotate_left
                  · intro w hSw; (try dsimp only at hSw); go_simp; (try with_reducible rfl)
                  try simp only [Act.put, List.getElem_toArray, List.getElem_cons_zero, List.getElem_cons_succ, List.setIfInBounds_toArray, List.set_cons_zero, List.set_cons_succ]
                  refine wpAnyH_take (i := 19) (v := ?_) rfl (by kernel_rfl) (by kernel_rfl) (by kernel_rfl) (fun _ _ _ h => h) (Or.inl ⟨by rfl, ?_⟩) hHeld ?_
                  rotate_left
                  · intro w hSw; (try dsimp only at hSw); go_simp; (try with_reducible rfl)
                  try simp only [Act.put, List.getElem_toArray, List.getElem_cons_zero, List.getElem_cons_succ, List.setIfInBounds_toArray, List.set_cons_zero, List.set_cons_succ]
                  refine wpAnyH_take (i := 20) (v := ?_) rfl (by kernel_rfl) (by kernel_rfl) (by kernel_rfl) (fun _ _ _ h => h) (Or.inl ⟨by rfl, ?_⟩) hHeld ?_
                  rotate_left
                  · intro w hSw; (try dsimp only at hSw); go_simp; (try with_reducible rfl)
                  try simp only [Act.put, List.getElem_toArray, List.getElem_cons_zero, List.getElem_cons_succ, List.setIfInBounds_toArray, List.set_cons_zero, List.set_cons_succ]
                  refine wpAnyH_take (i := 21) (v := ?_) rfl (by kernel_rfl) (by kernel_rfl) (by kernel_rfl) (fun _ _ _ h => h) (Or.inl ⟨by rfl, ?_⟩) hHeld ?_
                  rotate_left
                  · intro w hSw; (try dsimp only at hSw); go_simp; (try with_reducible rfl)
                  try simp only [Act.put, List.getElem_toArray, List.getElem_cons_zero, List.getElem_cons_succ, List.setIfInBounds_toArray, List.set_cons_zero, List.set_cons_succ]
                  refine wpAnyH_take (i := 22) (v := ?_) rfl (by kernel_rfl) (by kernel_rfl) (by kernel_rfl) (fun _ _ _ h => h) (Or.inl ⟨by rfl, ?_⟩) hHeld ?_
                  rotate_left
                  · intro w hSw; (try dsimp only at hSw); go_simp; (try with_reducible rfl)
                  try simp only [Act.put, List.getElem_toArray, List.getElem_cons_zero, List.getElem_cons_succ, List.setIfInBounds_toArray, List.set_cons_zero, List.set_cons_succ]
                  refine wpAnyH_take (i := 23) (v := ?_) rfl (by kernel_rfl) (by kernel_rfl) (by kernel_rfl) (fun _ _ _ h => h) (Or.inl ⟨by rfl, ?_⟩) hHeld ?_
                  rotate_left
                  · intro w hSw; (try dsimp only at hSw); go_simp; (try with_reducible rfl)
                  try simp only [Act.put, List.getElem_toArray, List.getElem_cons_zero, List.getElem_cons_succ, List.setIfInBounds_toArray, List.set_cons_zero, List.set_cons_succ]
                  refine wpAnyH_take (i := 24) (v := ?_) rfl (by kernel_rfl) (by kernel_rfl) (by kernel_rfl) (fun _ _ _ h => h) (Or.inl ⟨by rfl, ?_⟩) hHeld ?_
                  rotate_left
                  · intro w hSw; (try dsimp only at hSw); go_simp; (try with_reducible rfl)
                  try simp only [Act.put, List.getElem_toArray, List.getElem_cons_zero, List.getElem_cons_succ, List.setIfInBounds_toArray, List.set_cons_zero, List.set_cons_succ]
                  refine wpAnyH_take (i := 25) (v := ?_) rfl (by kernel_rfl) (by kernel_rfl) (by kernel_rfl) (fun _ _ _ h => h) (Or.inl ⟨by rfl, ?_⟩) hHeld ?_
                  rotate_left
                  · intro w hSw; (try dsimp only at hSw); go_simp; (try with_reducible rfl)
                  try simp only [Act.put, List.getElem_toArray, List.getElem_cons_zero, List.getElem_cons_succ, List.setIfInBounds_toArray, List.set_cons_zero, List.set_cons_succ]
                  refine wpAnyH_ready (rs := [17, 26]) (by kernel_rfl) (by simp) ?_
                  refine AllReadyH.cons rfl (fun K hK => ?_) ?_
                  · go_simp
                    refine hK.out _ _ (by go_keep) (fun hHeld => ?_)
                    clear hK K
                    try simp only [Act.put, List.getElem_toArray, List.getElem_cons_zero, List.getElem_cons_succ, List.setIfInBounds_toArray, List.set_cons_zero, List.set_cons_succ]
                    refine wpAnyH_ready (rs := [26]) (by kernel_rfl) (by simp) ?_
                    refine AllReadyH.cons rfl (fun K hK => ?_) AllReadyH.nil
                    go_simp
                    (go_at_call 50; refine (HFj.out _ (by rfl)).mono ?_; rintro e w2 ⟨rfl, q2, rfl⟩)
                    refine hK.out _ _ (by go_keep) (fun hHeld => ?_)
                    clear hK K
                    try simp only [Act.put, List.getElem_toArray, List.getElem_cons_zero, List.getElem_cons_succ, List.setIfInBounds_toArray, List.set_cons_zero, List.set_cons_succ]
                    refine wpAnyH_take (i := 27) (v := ?_) rfl (by kernel_rfl) (by kernel_rfl) (by kernel_rfl) (fun _ _ _ h => h) (Or.inl ⟨by rfl, ?_⟩) hHeld ?_
                    rotate_left
                    · intro w hSw; (try dsimp only at hSw); go_simp; (try with_reducible rfl)
                    try simp only [Act.put, List.getElem_toArray, List.getElem_cons_zero, List.getElem_cons_succ, List.setIfInBounds_toArray, List.set_cons_zero, List.set_cons_succ]
                    refine wpAnyH_ready (rs := [28]) (by kernel_rfl) (by simp) ?_
                    refine AllReadyH.cons rfl (fun K hK => ?_) AllReadyH.nil
                    go_simp
                    (go_at_call 49; refine (least2' (x + y) _ ?_).mono ?_; omega; rintro e w3 ⟨rfl, rfl⟩)
                    refine hK.out _ _ (by go_keep) (fun hHeld => ?_)
                    clear hK K
                    try simp only [Act.put, List.getElem_toArray, List.getElem_cons_zero, List.getElem_cons_succ, List.setIfInBounds_toArray, List.set_cons_zero, List.set_cons_succ]
                    refine wpAnyH_take (i := 29) (v := ?_) rfl (by kernel_rfl) (by kernel_rfl) (by kernel_rfl) (fun _ _ _ h => h) (Or.inl ⟨by rfl, ?_⟩) hHeld ?_
                    rotate_left
                    · intro w hSw; (try dsimp only at hSw); go_simp; (try with_reducible rfl)
                    try simp only [Act.put, List.getElem_toArray, List.getElem_cons_zero, List.getElem_cons_succ, List.setIfInBounds_toArray, List.set_cons_zero, List.set_cons_succ]
                    refine wpAnyH_ready (rs := [30]) (by kernel_rfl) (by simp) ?_
                    refine AllReadyH.cons rfl (fun K hK => ?_) AllReadyH.nil
                    go_simp
                    refine hK.out _ _ (by go_keep) (fun hHeld => ?_)
                    clear hK K
                    try simp only [Act.put, List.getElem_toArray, List.getElem_cons_zero, List.getElem_cons_succ, List.setIfInBounds_toArray, List.set_cons_zero, List.set_cons_succ]
                    refine wpAnyH_done (by kernel_rfl) ?_ _
                    go_wp2_with fail
                    go_roundg (v.size + 2 - (j + 1))
                    case measure => omega
                    case rel => exact ⟨j + 1, by go_num, by omega, by omega, rfl, HST.out _ ⟨rfl, rfl, rfl, Nat.le_refl _, fun _ _ => rfl⟩⟩
                  refine AllReadyH.cons rfl (fun K hK => ?_) AllReadyH.nil
                  go_simp
                  (go_at_call 50; refine (HFj.out _ (by rfl)).mono ?_; rintro e w2 ⟨rfl, q2, rfl⟩)
                  refine hK.out _ _ (by go_keep) (fun hHeld => ?_)
                  clear hK K
                  try simp only [Act.put, List.getElem_toArray, List.getElem_cons_zero, List.getElem_cons_succ, List.setIfInBounds_toArray, List.set_cons_zero, List.set_cons_succ]
                  refine wpAnyH_ready (rs := [17]) (by kernel_rfl) (by simp) ?_
                  refine AllReadyH.cons rfl (fun K hK => ?_) AllReadyH.nil
                  go_simp
                  refine hK.out _ _ (by go_keep) (fun hHeld => ?_)
                  clear hK K
                  try simp only [Act.put, List.getElem_toArray, List.getElem_cons_zero, List.getElem_cons_succ, List.setIfInBounds_toArray, List.set_cons_zero, List.set_cons_succ]
                  refine wpAnyH_take (i := 27) (v := ?_) rfl (by kernel_rfl) (by kernel_rfl) (by kernel_rfl) (fun _ _ _ h => h) (Or.inl ⟨by rfl, ?_⟩) hHeld ?_
                  rotate_left
                  · intro w hSw; (try dsimp only at hSw); go_simp; (try with_reducible rfl)
                  try simp only [Act.put, List.getElem_toArray, List.getElem_cons_zero, List.getElem_cons_succ, List.setIfInBounds_toArray, List.set_cons_zero, List.set_cons_succ]
                  refine wpAnyH_ready (rs := [28]) (by kernel_rfl) (by simp) ?_
                  refine AllReadyH.cons rfl (fun K hK => ?_) AllReadyH.nil
                  go_simp
                  (go_at_call 49; refine (least2' (x + y) _ ?_).mono ?_; omega; rintro e w3 ⟨rfl, rfl⟩)
                  refine hK.out _ _ (by go_keep) (fun hHeld => ?_)
                  clear hK K
                  try simp only [Act.put, List.getElem_toArray, List.getElem_cons_zero, List.getElem_cons_succ, List.setIfInBounds_toArray, List.set_cons_zero, List.set_cons_succ]
                  refine wpAnyH_take (i := 29) (v := ?_) rfl (by kernel_rfl) (by kernel_rfl) (by kernel_rfl) (fun _ _ _ h => h) (Or.inl ⟨by rfl, ?_⟩) hHeld ?_
                  rotate_left
                  · intro w hSw; (try dsimp only at hSw); go_simp; (try with_reducible rfl)
                  try simp only [Act.put, List.getElem_toArray, List.getElem_cons_zero, List.getElem_cons_succ, List.setIfInBounds_toArray, List.set_cons_zero, List.set_cons_succ]
                  refine wpAnyH_ready (rs := [30]) (by kernel_rfl) (by simp) ?_
                  refine AllReadyH.cons rfl (fun K hK => ?_) AllReadyH.nil
                  go_simp
                  refine hK.out _ _ (by go_keep) (fun hHeld => ?_)
                  clear hK K
                  try simp only [Act.put, List.getElem_toArray, List.getElem_cons_zero, List.getElem_cons_succ, List.setIfInBounds_toArray, List.set_cons_zero, List.set_cons_succ]
                  refine wpAnyH_done (by kernel_rfl) ?_ _
                  go_wp2_with fail
                  go_roundg (v.size + 2 - (j + 1))
                  case measure => omega
                  case rel => exact ⟨j + 1, by go_num, by omega, by omega, rfl, HST.out _ ⟨rfl, rfl, rfl, Nat.le_refl _, fun _ _ => rfl⟩⟩
                · obtain rfl : j = v.size + 1 := by omega
                  have hM2 := hM.congr (M' := P (i + 1) (i + 1)) (fun c' i' j' _ h => HPR.out i c' i' j' h)
                  have b4 : ¬ ((v.size : Int) + 1 ≤ (v.size : Int)) := by omega
                  clear hM
                  go_wp2_with fail
                  go_roundg (v.size + 2 - (i + 1))
                  case measure => omega
                  case rel => exact ⟨i + 1, by go_num, by omega, rfl, hM2⟩
            · obtain rfl : i = v.size + 1 := by omega
              have hM2 := hM.congr (M' := Pu.part (Pu.lvl v s R m) v s R (r + 1) 0 0) (fun c' i' j' h _ => HPN.out c' i' j' h)
              have b4 : ¬ ((v.size : Int) + 1 ≤ (v.size : Int)) := by omega
              clear hM
              go_wp2_with fail
              go_roundg (R.length + 1 - (r + 1))
              case measure => omega
              case rel => exact ⟨r + 1, by go_num, by omega, rfl, hM2⟩
        · obtain rfl : r = R.length := by omega
          have hM2 := hM.congr (M' := Pu.lvl v s R (m + 1)) (fun c i j _ _ => Pu.part_lvl c i j)
          clear hM HR HS
          obtain ⟨N, hN⟩ : ∃ N, N = Pu.lvl v s R m := ⟨_, rfl⟩
          obtain ⟨M, hM⟩ : ∃ M, M = Pu.lvl v s R (m + 1) := ⟨_, rfl⟩
          rw [← hN, ← hM] at hM2
          have HNM : Hid (∀ b, Pu.Seen N M v.size 26 0 0 b → 2 * Pu.room v s R v.size (m + 1) + b.toNat < 2 * Pu.room v s R v.size m + 1 ∧ (b = false → Pu.Cnt v s R v.size (Pu.lvl v s R (m + 1)))) := by
            intro b hb
            rw [hN, hM] at hb
            exact ⟨Pu.room_seen hb, fun e => by subst e; exact Pu.cnt_of_seen HG.out hb⟩
          have HEN := aside_of hM
          clear hN hM HN HG
          go_wp2_with fail
          go_loopg [6, 12] 27 (fun q av kv V => ∃ (k : Nat) (b : Bool), av = .bool b ∧ kv = .int .i64 k ∧ k ≤ 26 ∧ q = 27 - k ∧ Mid w V w.heap.size top base top2 v.size lv v N M ∧ Pu.Seen N M v.size k 0 0 b)
          case atStart => exact ⟨0, false, rfl, rfl, by omega, rfl, hM2, Pu.Seen.start⟩
          case round =>
            clear hM2
            obtain ⟨k, b, rfl, rfl, hk, rfl, hM, hse⟩ := hrel
            by_cases hk26 : k < 26
            · have d0 : decide ((k : Int) < 26) = true := by simp; omega
              have d0' : (k : Int) < 26 := by omega
              go_wp2_with fail
              go_loopg [6, 13] (v.size + 2) (fun q av iv V => ∃ (i : Nat) (b : Bool), av = .bool b ∧ iv = .int .i64 i ∧ i ≤ v.size + 1 ∧ q = v.size + 2 - i ∧ Mid w V w.heap.size top base top2 v.size lv v N M ∧ Pu.Seen N M v.size k i i b)
              case atStart => exact ⟨0, b, rfl, rfl, by omega, rfl, hM, hse⟩
              case round =>
                clear hM hse
                obtain ⟨i, b, rfl, rfl, hi, rfl, hM, hse⟩ := hrel
                by_cases hil : i ≤ v.size
                · have b5 : (i : Int) ≤ (v.size : Int) := by omega
                  go_wp2_with fail
                  go_loopg [6, 14] (v.size + 2 - i) (fun q av jv V => ∃ (j : Nat) (b : Bool), av = .bool b ∧ jv = .int .i64 j ∧ i ≤ j ∧ j ≤ v.size + 1 ∧ q = v.size + 2 - j ∧ Mid w V w.heap.size top base top2 v.size lv v N M ∧ Pu.Seen N M v.size k i j b)
                  case atStart => exact ⟨i, b, rfl, rfl, Nat.le_refl _, by omega, rfl, hM, hse⟩
                  case round =>
                    clear hM hse
                    obtain ⟨j, b, rfl, rfl, hij, hj, rfl, hM, hse⟩ := hrel
                    by_cases hjl : j ≤ v.size
                    · have d1 := hM.nx.c1 hk26
                      have d2 := hM.nx.c2 hk26 hil
                      have d3 := hM.nx.c3 hk26 hil hjl
                      have f0 := hM.ch.c2
                      have f1 := hM.ch.cube.c1 hk26
                      have f2 := hM.ch.cube.c2 hk26 hil
                      have f3 := hM.ch.cube.c3 hk26 hil hjl
                      have HML := hide (fun q => hM.drewN q)
                      have hsame := hide hse.same
                      have hdiff := hide (Pu.Seen.diff (N := N) (M := M) hk26 hil hjl)
                      clear hM hse
                      generalize tb (top2 + 1) v.size k = t1 at *
                      generalize tb base v.size k = t2 at *
                      generalize M (65 + k) i j = x at *
                      generalize N (65 + k) i j = y at *
                      have b1 : (0 : Int) ≤ (i : Int) := by omega
                      have b2 : (i : Int) < (v.size : Int) + 1 := by omega
                      have b3 : (0 : Int) ≤ (j : Int) := by omega
                      have b4 : (j : Int) < (v.size : Int) + 1 := by omega
                      have b6 : (j : Int) ≤ (v.size : Int) := by omega
                      have b7 : (0 : Int) ≤ (k : Int) := by omega
                      by_cases hxy : x = y
                      · have e1 : ((x : Int) != (y : Int)) = false := by simp [hxy]
                        have HX := aside_of (hsame.out hxy)
                        clear hsame hdiff hxy
                        go_wp2_with fail
                        go_quiet (fail)
                        go_wp2_with fail
                        go_roundg (v.size + 2 - (j + 1))
                        case measure => omega
                        case rel => exact ⟨j + 1, b, rfl, by go_num, by omega, by omega, rfl, HML.out _, HX.out⟩
                      · have e1 : ((x : Int) != (y : Int)) = true := by simp; omega
                        have HX := aside_of (hdiff.out hxy)
                        clear hsame hdiff hxy
                        go_wp2_with fail
                        go_quiet (fail)
                        go_wp2_with fail
                        go_roundg (v.size + 2 - (j + 1))
                        case measure => omega
                        case rel => exact ⟨j + 1, true, rfl, by go_num, by omega, by omega, rfl, HML.out _, HX.out⟩
                    · obtain rfl : j = v.size + 1 := by omega
                      have hX := hse.row
                      have b4 : ¬ ((v.size : Int) + 1 ≤ (v.size : Int)) := by omega
                      go_wp2_with fail
                      go_roundg (v.size + 2 - (i + 1))
                      case measure => omega
                      case rel => exact ⟨i + 1, b, rfl, by go_num, by omega, rfl, hM, hX⟩
                · obtain rfl : i = v.size + 1 := by omega
                  have hX := hse.tbl
                  have b4 : ¬ ((v.size : Int) + 1 ≤ (v.size : Int)) := by omega
                  go_wp2_with fail
                  go_roundg (27 - (k + 1))
                  case measure => omega
                  case rel => exact ⟨k + 1, b, rfl, by go_num, by omega, rfl, hM, hX⟩
            · obtain rfl : k = 26 := by omega
              obtain ⟨n1, n2⟩ := HNM.out b hse
              have hsw := hM.swap
              have hbl := hM.bel
              have hb2 : Below w.heap.size w (wr.setCell ⟨w.heap.size, 2, none⟩ (.slice (some ⟨top2, 0, none⟩) 26 26)) := hbl.setCell (Nat.le_refl _) _
              have f0 := hM.ch.c2
              have f1 : wr.frozen? ⟨w.heap.size, 2, none⟩ = false := by have := hM.ch.blk; simp [World.frozen?, this]
              have HN2 := aside_of n2
              clear hM hse HNM n2 hbl
              go_wp2_with fail
              go_roundg (2 * Pu.room v s R v.size (m + 1) + b.toNat)
              case measure => exact n1
              case rel => exact ⟨m + 1, top2, top2 + 1, b, rfl, rfl, by rw [HEN.out] at hsw; exact hsw, hb2, HN2.out⟩
end Go.Proofs.YthmbbiahnfpoeaaDoor
