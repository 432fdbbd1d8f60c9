import Derived.Test.YtdbjkcpjpmglkaaDoorWiden
import Derived.WalkKit
import Derived.WalkSpells
import Derived.WalkSmall
import Derived.BigQuiet
import Derived.Deep.QuietTactic
import Derived.Deep.RegionWith
import Derived.Deep.LoopGhost
import Derived.Deep.RegionHeld3
import Derived.Deep.DeepCutAuto
namespace Go.Proofs.YtdbjkcpjpmglkaaDoor
open Go.RowKit

theorem StartP_any (q g cap B : Nat) (s : ByteArray) (R : List (Nat × Nat)) (L : List Nat) (w : World) (h : GrAt w q g cap B s R L) (hR : 0 < R.length) :
    Calls Tryd.prog 44 #[.pointer (some ⟨q, 0, none⟩)] w fun e w' => e = .returned (.int .u8 ↑(Pu.byt s (R[0]'hR).1)) ∧ w' = w := by
  have c0 := h.c0
  obtain ⟨f0, _, _⟩ := h.rules 0 hR
  have b1 : (0 : Int) < (R.length : Int) := by omega
  generalize Pu.byt s (R[0]'hR).1 = c at *
  clear h
  go_enter Tryd.func44, Tryd.ntmps44
  go_wp2
  go_ret
  exact ⟨rfl, rfl⟩
/-- The beginning in the making. -/
structure MakB (w V : World) (pb n A K : Nat) : Prop where
  half : HalfG w V w.heap.size (w.heap.size + 2) A n K
  blk : V.heap[w.heap.size + 1]? = some (.cells #[.pointer (some ⟨pb, 0, none⟩), .int .i64 n, .slice (some ⟨w.heap.size, 0, none⟩) A A] 144 (0, 0))
section
variable {w V : World} {pb n A K : Nat}
theorem MakB.start (w : World) (pb n A : Nat) : MakB w ((w.alloc (.cells (zNil A) 56)).alloc (.cells #[.pointer (some ⟨pb, 0, none⟩), .int .i64 n, .slice (some ⟨w.heap.size, 0, none⟩) A A] 144)) pb n A 0 := by
  refine ⟨HalfG.start _ (((Below.refl _ _).alloc (Nat.le_refl _) _).alloc (by simp) _) ?_ (Nat.le_refl _) (by omega) (by simp), ?_⟩
  · rw [Below.heap_alloc _ _ _ (by simp)]; exact heap_alloc_new w _
  · have := heap_alloc_new (w.alloc (.cells (zNil A) 56)) (.cells #[.pointer (some ⟨pb, 0, none⟩), .int .i64 n, .slice (some ⟨w.heap.size, 0, none⟩) A A] 144)
    simpa using this
theorem MakB.addRow (h : MakB w V pb n A K) (hK : K < A) : MakB w ((V.setCell ⟨w.heap.size, K, none⟩ (.slice (some ⟨V.heap.size, 0, none⟩) n n)).alloc (.cells (zBools n) 4)).drew pb n A (K + 1) := by
  refine ⟨(h.half.addRow hK).drew, ?_⟩
  show ((V.setCell ⟨w.heap.size, K, none⟩ (.slice (some ⟨V.heap.size, 0, none⟩) n n)).alloc (.cells (zBools n) 4)).heap[w.heap.size + 1]? = _
  rw [Below.heap_alloc _ _ _ (by simp; exact lt_heap h.blk), Below.heap_setCell _ _ _ _ (by show w.heap.size + 1 ≠ w.heap.size; omega)]
  exact h.blk
theorem MakB.done {L : List Nat} (h : MakB w V pb n L.length L.length) : BegP w V pb n L (fun _ _ => false) := ⟨h.half.bel, h.blk, h.half.done⟩
end

set_option maxRecDepth 100000 in
set_option maxHeartbeats 2000000 in
theorem beginsP_any (pb top base q g cap B n : Nat) (v s : ByteArray) (R : List (Nat × Nat)) (L : List Nat) (N : Nat → Nat → Nat → Nat) (w : World) (hv : v.size ≤ 24) (hn : n ≤ v.size) (h0 : 0 < n) (hG : Pu.Good s R) (hS : Pu.Signed s R) (hn8 : R.length ≤ 8) (hR : 0 < R.length) (hnd : L.Nodup) (hl8 : L.length ≤ 8) (hLR : ∀ r ∈ R, Pu.byt s r.1 ∈ L)
    (hLC : ∀ r ∈ R, ∀ a, r.1 + 2 ≤ a → a < r.2 → Pu.nm (Pu.byt s a) = true → Pu.byt s a ∈ L) (hP : ProgAt w pb top base q g cap B v s R L N) :
    Calls Tryd.prog 52 #[.pointer (some ⟨pb, 0, none⟩), .int .i64 n] w fun e w' => Below w.heap.size w w' ∧ ∃ b, e = .returned (.bool b) ∧ Pu.Bg N v s R (Pu.byt s (R[0]'hR).1) n b := by
  have c2 := hP.c2
  have hpl := lt_heap hP.blk
  have m108 := make108 L.length (by omega)
  have m56 := make56 n (by omega)
  have hM0 := MakB.start w pb n L.length
  have HAT := hide (fun (V : World) (G : Nat → Nat → Bool) (h : BegP w V pb n L G) => h.at hP)
  have HWD := hide (fun (fr : Nat) (G : Nat → Nat → Bool) (V : World) (hfr : fr < n) (hB : BegP w V pb n L G) hU => widen_any pb top base q g cap B n fr v s R L N G w V hv hn hfr hG hS hn8 hnd hLR hLC hP hB hU)
  have hcL := hLR _ (List.getElem_mem hR)
  have h256 := Pu.byt_lt s (R[0]'hR).1
  clear hG hS hLC hLR hP
  go_enter Tryd.func52, Tryd.ntmps52
  go_wp2_with fail
  clear c2 m108
  go_loopg [20] (L.length + 1) (fun z kv V => ∃ k : Nat, kv = .int .i64 k ∧ k ≤ L.length ∧ z = L.length + 1 - k ∧ MakB w V pb n L.length k)
  case atStart => exact ⟨0, rfl, Nat.zero_le _, rfl, hM0⟩
  case round =>
    clear hM0
    obtain ⟨k, rfl, hk, rfl, hM⟩ := hrel
    by_cases hkl : k < L.length
    · have hT := hM.addRow hkl
      have c2 : wr.cell? ⟨w.heap.size + 1, 2, none⟩ = some (.slice (some ⟨w.heap.size, 0, none⟩) L.length L.length) := by have := hM.blk; simp [World.cell?, this]
      obtain ⟨cs, ht, hz, hc⟩ := hM.half.top
      have htl := lt_heap ht
      have hbl := lt_heap hM.blk
      have hct : ∃ x, wr.cell? ⟨w.heap.size, k, none⟩ = some x := by
        simp only [World.cell?, ht]
        exact ⟨cs[k], by simp⟩
      obtain ⟨x0, hx0⟩ := hct
      have hf0 : wr.frozen? ⟨w.heap.size, k, none⟩ = false := by simp [World.frozen?, ht]
      have n1 : ¬ wr.heap.size = w.heap.size := by omega
      have n2 : ¬ w.heap.size = wr.heap.size := by omega
      have n3 : ¬ wr.heap.size = w.heap.size + 1 := by omega
      have n4 : ¬ w.heap.size + 1 = wr.heap.size := by omega
      have n5 : ¬ w.heap.size + 1 = w.heap.size := by omega
      have b1 : (0 : Int) ≤ (k : Int) := by omega
      have b2 : (k : Int) < (L.length : Int) := by omega
      clear hM ht hz hc
      go_wp2_with fail
      go_region_held3 (fun w' => w'.cell? ⟨w.heap.size + 1, 2, none⟩ = some (.slice (some ⟨w.heap.size, 0, none⟩) L.length L.length)) (go_keep) (fail)
      all_goals
        go_wp2_with fail
        go_roundg (L.length + 1 - (k + 1))
        case measure => omega
        case rel => exact ⟨k + 1, by go_num, by omega, rfl, hT⟩
    · obtain rfl : k = L.length := by omega
      have hB := hM.done
      clear hM m56
      have hst : ((n : Int) - 1) = ((n : Int) - 1) := rfl
      go_wp2_with fail
      go_loopg [7] (n + 1) (fun z kv V => ∃ (fr : Nat) (G : Nat → Nat → Bool), kv = .int .i64 ((fr : Int) - 1) ∧ fr ≤ n ∧ z = fr + 1 ∧ BegP w V pb n L G ∧ Pu.Wide N v s R n G fr)
      case atStart => exact ⟨n, _, by go_num, Nat.le_refl _, rfl, hB, Pu.Wide.start⟩
      case round =>
        clear hB hst
        obtain ⟨fr, G, rfl, hfr, rfl, hB, hW⟩ := hrel
        cases fr with
        | zero =>
          have HL := aside_of hW.lfp
          have hO := HAT.out _ _ hB
          have c0 := hO.pr.c0
          have c2 := hO.c2
          have g1 := hO.g1 hcL
          have g2 := hO.g2 hcL h0
          have hix := idx_lt hcL
          have hbl := hB.bel
          have HST := hide (fun d => StartP_any q g cap B s R L (wr.drewN d) (hO.pr.gr.drewN d) hR)
          have HNU := hide (fun d => Number_any q g cap B s R L (Pu.byt s (R[0]'hR).1) (wr.drewN d) (hO.pr.gr.drewN d) h256 hcL)
          clear hO hB hW HWD HAT
          generalize hcc : Pu.byt s (R[0]'hR).1 = c at *
          generalize L.idxOf c = ix at *
          generalize w.heap.size + 2 + ix = gr at *
          generalize hbb : G c 0 = bb at *
          have b3 : (0 : Int) ≤ (ix : Int) := by omega
          have b4 : (ix : Int) < (L.length : Int) := by omega
          have b5 : (0 : Int) < (n : Int) := by omega
          go_wp2_with fail
          go_quiet (first | (go_at_call 44; exact Calls.quiet_of_same (HST.out _)) | (go_at_call 62; exact Calls.quiet_of_same (HNU.out _)))
          go_wp2_with fail
          go_ret
          exact ⟨Go.below_drewN hbl _, bb, rfl, G, HL.out, by rw [hcc]; exact hbb.symm⟩
        | succ fr =>
          have f1 : (((fr + 1 : Nat)) : Int) - 1 = (fr : Int) := by omega
          rw [f1]
          have f2 : (fr : Int) ≥ 0 := by omega
          have f3 : (0 : Int) ≤ (fr : Int) := by omega
          go_wp2_with fail
          go_loopg [] (27 - Pu.cntB G fr) (fun z V => ∃ (G : Nat → Nat → Bool), z = 27 - Pu.cntB G fr ∧ BegP w V pb n L G ∧ Pu.Wide N v s R n G (fr + 1))
          case atStart => exact ⟨G, rfl, hB, hW⟩
          case round =>
            clear hB hW
            obtain ⟨G, rfl, hB, hW⟩ := hrel
            have HC := hide (HWD.out fr G _ (by omega) hB hW.under)
            clear hB
            go_wp2_with (go_at_call 75; refine HC.out.mono ?_; rintro e w2 ⟨bb, G', rfl, hB, hWi⟩; cases bb)
            · have hX := hW.next hWi
              have hBB : BegP w w2 pb n L G := by rw [← (hWi.no rfl).1]; exact hB
              clear hW hWi hB
              go_roundg (fr + 1)
              case measure => omega
              case rel => exact ⟨fr, G, by go_num, by omega, rfl, hBB, hX⟩
            · have hX := hW.again hWi
              have hlt := hWi.yes rfl
              have h26 := Pu.cntB_le26 G' fr
              clear hW hWi
              go_roundg (27 - Pu.cntB G' fr)
              case measure => omega
              case rel => exact ⟨G', rfl, hB, hX⟩

set_option maxHeartbeats 1000000 in
theorem PrefixP_any (pb top base q g cap B : Nat) (v s : ByteArray) (R : List (Nat × Nat)) (L : List Nat) (N : Nat → Nat → Nat → Nat) (w : World) (hv : v.size ≤ 24) (hG : Pu.Good s R) (hS : Pu.Signed s R) (hn8 : R.length ≤ 8) (hR : 0 < R.length) (hnd : L.Nodup) (hl8 : L.length ≤ 8) (hLR : ∀ r ∈ R, Pu.byt s r.1 ∈ L)
    (hLC : ∀ r ∈ R, ∀ a, r.1 + 2 ≤ a → a < r.2 → Pu.nm (Pu.byt s a) = true → Pu.byt s a ∈ L) (hP : ProgAt w pb top base q g cap B v s R L N) :
    Calls Tryd.prog 31 #[.pointer (some ⟨pb, 0, none⟩)] w fun e w' => Below w.heap.size w w' ∧ ∃ p : Nat, e = .returned (.int .i64 p) ∧ Pu.Pfx N v s R (Pu.byt s (R[0]'hR).1) v.size p := by
  have c1 := hP.c1
  have HB := hide (fun (V : World) (n : Nat) (hb : Below w.heap.size w V) (hn : n ≤ v.size) (h0 : 0 < n) => beginsP_any pb top base q g cap B n v s R L N V hv hn h0 hG hS hn8 hR hnd hl8 hLR hLC (hP.below hb))
  clear hG hS hn8 hnd hl8 hLR hLC hP
  go_enter Tryd.func31, Tryd.ntmps31
  go_wp2_with fail
  clear c1
  go_loopg [3] (v.size + 1) (fun z nv V => ∃ k : Nat, nv = .int .i64 k ∧ k ≤ v.size ∧ z = k + 1 ∧ Below w.heap.size w V ∧ ∀ p, Pu.Pfx N v s R (Pu.byt s (R[0]'hR).1) k p → Pu.Pfx N v s R (Pu.byt s (R[0]'hR).1) v.size p)
  case atStart => exact ⟨v.size, rfl, Nat.le_refl _, rfl, Below.refl _ _, fun _ h => h⟩
  case round =>
    obtain ⟨k, rfl, hk, rfl, hbV, hpf⟩ := hrel
    have HPF := aside_of hpf
    clear hpf
    cases k with
    | zero =>
      have HX := aside_of (HPF.out 0 rfl)
      clear HPF HB
      go_wp2_with fail
      go_ret
      exact ⟨hbV, 0, rfl, HX.out⟩
    | succ k =>
      have HC := hide (HB.out _ (k + 1) hbV hk (by omega))
      have k1 : (((k + 1 : Nat)) : Int) > 0 := by omega
      generalize hkk : k + 1 = kk at *
      clear HB
      go_wp2_with fail
      refine HC.out.mono ?_
      rintro e w4 ⟨hb4, b, rfl, hBg⟩
      have hb34 := hbV.trans (hb4.mono hbV.size)
      cases b with
      | true =>
        have HX := aside_of (HPF.out kk (by rw [← hkk] at hBg ⊢; exact .inl ⟨hBg, rfl⟩))
        clear HPF hBg HC
        go_wp2_with fail
        go_ret
        exact ⟨hb34, kk, rfl, HX.out⟩
      | false =>
        have HX : Aside (∀ p, Pu.Pfx N v s R (Pu.byt s (R[0]'hR).1) k p → Pu.Pfx N v s R (Pu.byt s (R[0]'hR).1) v.size p) := fun p hp => HPF.out p (by rw [← hkk] at hBg ⊢; exact .inr ⟨hBg, hp⟩)
        clear HPF hBg HC
        subst hkk
        go_wp2_with fail
        go_roundg (k + 1)
        case measure => omega
        case rel => exact ⟨k, by go_num, by omega, rfl, hb34, HX.out⟩
end Go.Proofs.YtdbjkcpjpmglkaaDoor
