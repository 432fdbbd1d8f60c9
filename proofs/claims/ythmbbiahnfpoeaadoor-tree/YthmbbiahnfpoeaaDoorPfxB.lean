import Derived.Test.YthmbbiahnfpoeaaDoorPfxA
import Derived.Test.YthmbbiahnfpoeaaDoorSign
import Derived.WalkKit
import Derived.WalkSpells
import Derived.WalkSmall
import Derived.BigQuiet
import Derived.Deep.QuietTactic
import Derived.Deep.RegionWith
import Derived.Deep.LoopGhost
import Derived.Deep.RegionHeld3
import Derived.Deep.DeepCutAuto
import Derived.Test.YthmbbiahnfpoeaaDoorGrowP
import Derived.Test.YthmbbiahnfpoeaaDoorReadB
namespace Go.Proofs.YthmbbiahnfpoeaaDoor
open Go.RowKit

namespace Pu
/-- As the program asks. -/
theorem beg_sgn {N : Nat → Nat → Nat → Nat} {v s : ByteArray} {n : Nat} {G : Nat → Nat → Bool} {k a i : Nat} (hi : i < n) (hs : sg (byt s a) = true) :
    beg N v s n G (k + 1) a i = if nm (byt s a) = true ∧ G (byt s a) i = true then true else anyIn (fun j => decide (0 < sgn N v (byt s a) i j) && beg N v s n G k (a + 1) j) (n + 1 - i) i := by
  conv => lhs; unfold beg
  rw [if_neg (by omega)]
  by_cases hn : nm (byt s a) = true
  · rw [if_neg (by rw [nm_not_lt hn]; decide)]
    have e : ∀ j, sgn N v (byt s a) i j = N (byt s a) i j := fun j => by unfold sgn; rw [if_pos hn]
    simp only [e, hn, true_and]
  · have hl : lt (byt s a) = true := by
      simp only [sg, Bool.or_eq_true] at hs
      exact hs.resolve_left hn
    rw [if_pos hl, if_neg (fun h => hn h.1), Bool.eq_iff_iff, anyIn_iff, Bool.and_eq_true, decide_eq_true_eq]
    have e : ∀ j, sgn N v (byt s a) i j = if j = i + 1 ∧ byt v i = byt s a then 1 else 0 := fun j => by unfold sgn; rw [if_neg hn]
    constructor
    · rintro ⟨h1, h2⟩
      exact ⟨i + 1, by omega, by omega, by rw [e, if_pos ⟨rfl, h1⟩, h2]; rfl⟩
    · rintro ⟨j, h1, h2, h3⟩
      rw [e, Bool.and_eq_true, decide_eq_true_eq] at h3
      obtain ⟨h3, h4⟩ := h3
      split at h3
      · rename_i hh; obtain ⟨rfl, hh⟩ := hh; exact ⟨hh, h4⟩
      · omega
end Pu
/-- The program's beginning in memory. -/
structure OpAt (w : World) (bb gt gb pb top base q g cap B n : Nat) (v s : ByteArray) (R : List (Nat × Nat)) (L : List Nat) (N : Nat → Nat → Nat → Nat) (G : Nat → Nat → Bool) : Prop where
  blk : w.heap[bb]? = some (.cells #[.pointer (some ⟨pb, 0, none⟩), .int .i64 n, .slice (some ⟨gt, 0, none⟩) L.length L.length] 144 (0, 0))
  pr : ProgAt w pb top base q g cap B v s R L N
  gd : Grid w gt gb L.length n (fun k i => G (L.getD k 0) i)
section
variable {w w' : World} {bb gt gb pb top base q g cap B n : Nat} {v s : ByteArray} {R : List (Nat × Nat)} {L : List Nat} {N : Nat → Nat → Nat → Nat} {G : Nat → Nat → Bool}
theorem OpAt.below (h : OpAt w bb gt gb pb top base q g cap B n v s R L N G) (hb : Below w.heap.size w w') : OpAt w' bb gt gb pb top base q g cap B n v s R L N G :=
  ⟨by rw [hb.block _ (lt_heap h.blk)]; exact h.blk, h.pr.below hb, h.gd.below hb⟩
theorem OpAt.drewN (h : OpAt w bb gt gb pb top base q g cap B n v s R L N G) (m : Nat) : OpAt (w.drewN m) bb gt gb pb top base q g cap B n v s R L N G := h.below (Go.below_drewN (Below.refl _ _) m)
theorem OpAt.c0 (h : OpAt w bb gt gb pb top base q g cap B n v s R L N G) : w.cell? ⟨bb, 0, none⟩ = some (.pointer (some ⟨pb, 0, none⟩)) := by have := h.blk; simp [World.cell?, this]
theorem OpAt.c1 (h : OpAt w bb gt gb pb top base q g cap B n v s R L N G) : w.cell? ⟨bb, 1, none⟩ = some (.int .i64 n) := by have := h.blk; simp [World.cell?, this]
theorem OpAt.c2 (h : OpAt w bb gt gb pb top base q g cap B n v s R L N G) : w.cell? ⟨bb, 2, none⟩ = some (.slice (some ⟨gt, 0, none⟩) L.length L.length) := by have := h.blk; simp [World.cell?, this]
theorem OpAt.g1 (h : OpAt w bb gt gb pb top base q g cap B n v s R L N G) {c : Nat} (hc : c ∈ L) : w.cell? ⟨gt, L.idxOf c, none⟩ = some (.slice (some ⟨gb + L.idxOf c, 0, none⟩) n n) := h.gd.c1 (idx_lt hc)
theorem OpAt.g2 (h : OpAt w bb gt gb pb top base q g cap B n v s R L N G) {c i : Nat} (hc : c ∈ L) (hi : i < n) : w.cell? ⟨gb + L.idxOf c, i, none⟩ = some (.bool (G c i)) := by
  have := h.gd.c2 (idx_lt hc) hi
  simp only [getD_idxOf hc] at this
  exact this
end

set_option maxRecDepth 100000 in
set_option maxHeartbeats 2000000 in
theorem row_any (bb gt gb pb top base q g cap B n : Nat) (v s : ByteArray) (R : List (Nat × Nat)) (L : List Nat) (N : Nat → Nat → Nat → Nat) (G : Nat → Nat → Bool) (hv : v.size ≤ 24) (hn : n ≤ v.size) : ∀ (m : Nat) (t : ByteArray) (i : Nat) (w : World), t.size = m → m ≤ 3 → (∀ a, a < t.size → Pu.sg (Pu.byt t a) = true) → (∀ a, a < t.size → Pu.nm (Pu.byt t a) = true → Pu.byt t a ∈ L) → i ≤ n → OpAt w bb gt gb pb top base q g cap B n v s R L N G →
    Calls Tryd.prog 83 #[.pointer (some ⟨bb, 0, none⟩), .string t, .int .i64 i] w fun e w' => e = .returned (.bool (Pu.beg N v t n G m 0 i)) ∧ ∃ d, w' = w.drewN d
  | 0, t, i, w, ht, _, _, _, hi, h => by
    obtain rfl : t = ⟨#[]⟩ := by
      apply ByteArray.ext
      exact Array.eq_empty_of_size_eq_zero ht
    have c1 := h.c1
    by_cases e : i = n
    · subst e
      clear h ht
      go_enter Tryd.func83, Tryd.ntmps83
      go_wp2
      go_ret
      exact ⟨by simp [Pu.beg], 0, rfl⟩
    · have e' : ((i : Int) == (n : Int)) = false := by simp; omega
      clear h ht
      go_enter Tryd.func83, Tryd.ntmps83
      go_wp2
      go_ret
      exact ⟨by simp [Pu.beg, e], 0, rfl⟩
  | m + 1, t, i, w, ht, hm, hsg, hL, hi, h => by
    have ih := hide (row_any bb gt gb pb top base q g cap B n v s R L N G hv hn m)
    have h0 : 0 < t.size := by omega
    have hemp : t.toList.isEmpty = false := by
      cases hh : t.toList.isEmpty with
      | false => rfl
      | true =>
        have := (Go.toList_nil_iff_emptyBytes t).1 (List.isEmpty_iff.1 hh)
        rw [this] at ht; simp at ht
    have hs0 := hsg 0 h0
    have hL0 := hL 0 h0
    have hby := Pu.byt_eq h0
    have tsz : (t.extract 1 t.size).size = m := by simp [ByteArray.size_extract]; omega
    have tby : ∀ a, a < m → Pu.byt (t.extract 1 t.size) a = Pu.byt t (1 + a) := fun a ha => byt_sub (s := t) (a := 1) (b := t.size) (k := a) (Nat.le_refl _) (by omega)
    have htl := fun i => beg_tail (N := N) (v := v) (n := n) (G := G) (i := i) ht
    have HI : Hid (∀ (i : Nat) (w : World), i ≤ n → OpAt w bb gt gb pb top base q g cap B n v s R L N G → Calls Tryd.prog 83 #[.pointer (some ⟨bb, 0, none⟩), .string (t.extract 1 t.size), .int .i64 i] w fun e w' => e = .returned (.bool (Pu.beg N v t n G m 1 i)) ∧ ∃ d, w' = w.drewN d) := by
      intro i w h1 h2
      have := ih.out (t.extract 1 t.size) i w tsz (by omega) (fun a ha => by rw [tsz] at ha; rw [tby a ha]; exact hsg _ (by omega)) (fun a ha => by rw [tsz] at ha; rw [tby a ha]; exact hL _ (by omega)) h1 h2
      rwa [htl i] at this
    have HSG : Hid (∀ (j : Nat) (w : World), i ≤ j → j ≤ n → OpAt w bb gt gb pb top base q g cap B n v s R L N G → Calls Tryd.prog 45 #[.pointer (some ⟨pb, 0, none⟩), .int .u8 t[0].toNat, .int .i64 i, .int .i64 j] w fun e w' => e = .returned (.int .i64 ↑(Pu.sgn N v t[0].toNat i j)) ∧ ∃ d, w' = w.drewN d) := by
      intro j w h1 h2 h3
      exact sign_any pb top base q g cap B v s R L N t[0].toNat i j w hv h3.pr (UInt8.toNat_lt _) (by rw [hby]; exact hL0) h1 (by omega)
    have c1 := h.c1
    clear ih tsz tby htl hsg hL
    by_cases e : i = n
    · subst e
      have hval : Aside (Pu.beg N v t i G (m + 1) 0 i = true) := by show _ = _; simp [Pu.beg]
      clear h HI hs0 hL0 hby ht HSG
      go_enter Tryd.func83, Tryd.ntmps83
      go_wp2
      go_ret
      exact ⟨by rw [hval.out]; rfl, 0, rfl⟩
    · have hin : i < n := by omega
      have e' : ((i : Int) == (n : Int)) = false := by simp; omega
      have b1 : (0 : Int) ≤ (i : Int) := by omega
      have b2 : (i : Int) < (n : Int) := by omega
      have b3 : (0 : Int) < (t.size : Int) := by omega
      have b31 : (1 : Int) ≤ (t.size : Int) := by omega
      have hval := Pu.beg_sgn (N := N) (v := v) (G := G) (k := m) hin hs0
      rw [Nat.zero_add, ← hby] at hval
      obtain ⟨f, hf⟩ : ∃ f : Nat → Bool, f = fun j => decide (0 < Pu.sgn N v t[0].toNat i j) && Pu.beg N v t n G m 1 j := ⟨_, rfl⟩
      rw [← hf] at hval
      have HF := aside_of hf
      have gN := fun w => gName_any t[0].toNat w
      have h256 : t[0].toNat < 256 := UInt8.toNat_lt _
      clear e hf hs0 ht
      by_cases hnm : Pu.nm t[0].toNat = true
      · rw [hnm] at gN
        have GN := hide gN
        have hcL : t[0].toNat ∈ L := by rw [hby]; rw [hby] at hnm; exact hL0 hnm
        have g1 := h.g1 hcL
        have g2 := h.g2 hcL hin
        have hix := idx_lt hcL
        have c2 := h.c2
        have c0 := h.c0
        have p0 := h.pr.c0
        have NB := hide (fun d => Number_any q g cap B s R L t[0].toNat (w.drewN d) (h.pr.gr.drewN d) h256 hcL)
        have HIX : Hid (L.idxOf t[0].toNat < L.length) := hix
        generalize hixx : L.idxOf t[0].toNat = ix at *
        generalize gb + ix = gr at *
        have b4 : (0 : Int) ≤ (ix : Int) := by omega
        have b5 : (ix : Int) < (L.length : Int) := by omega
        by_cases hG : G t[0].toNat i = true
        · rw [hG] at g2
          rw [if_pos ⟨hnm, hG⟩] at hval
          have HV := aside_of hval
          clear hval hnm hG hcL gN h HI HSG hixx HIX hL0 hby
          go_enter Tryd.func83, Tryd.ntmps83
          go_wp2_with fail
          go_quiet (first | (go_at_call 59; exact Calls.quiet_of_same (GN.out _)) | (go_at_call 62; exact Calls.quiet_of_same (NB.out _)))
          go_wp2_with fail
          go_ret
          exact ⟨by rw [HV.out]; rfl, _, rfl⟩
        · have hGf : G t[0].toNat i = false := by simpa using hG
          rw [hGf] at g2
          rw [if_neg (fun hh => hG hh.2)] at hval
          have HV := aside_of hval
          clear hval hnm hG hGf hcL gN hixx HIX hL0 hby
          go_enter Tryd.func83, Tryd.ntmps83
          go_wp2_with fail
          go_quiet (first | (go_at_call 59; exact Calls.quiet_of_same (GN.out _)) | (go_at_call 62; exact Calls.quiet_of_same (NB.out _)))
          go_wp2_with fail
          clear g1 g2 c2 c0 p0 NB GN
          clear c1
          go_loopg [7] (n + 2 - i) (fun z kv V => ∃ (k : Nat), kv = .int .i64 k ∧ i ≤ k ∧ k ≤ n + 1 ∧ z = n + 2 - k ∧ (∃ d, V = w.drewN d) ∧ Pu.anyIn f (n + 1 - i) i = Pu.anyIn f (n + 1 - k) k)
          case atStart => exact ⟨i, rfl, Nat.le_refl _, by omega, rfl, ⟨_, rfl⟩, rfl⟩
          case round =>
            obtain ⟨k, rfl, hik, hkv, rfl, hwr, hac⟩ := hrel
            have hO : OpAt wr bb gt gb pb top base q g cap B n v s R L N G := by obtain ⟨d, rfl⟩ := hwr; exact h.drewN d
            have HW := hide hwr
            have HA := aside_of hac
            clear hac hwr
            have c1 := hO.c1
            by_cases hkl : k ≤ n
            · have c0 := hO.c0
              have hstep : Aside (Pu.anyIn f (n + 1 - k) k = (f k || Pu.anyIn f (n + 1 - (k + 1)) (k + 1))) := by
                show _ = _
                rw [show n + 1 - k = (n + 1 - (k + 1)) + 1 by omega]; rfl
              have hfk : Aside (f k = (decide (0 < Pu.sgn N v t[0].toNat i k) && Pu.beg N v t n G m 1 k)) := by show _ = _; rw [HF.out]
              have HSk := hide (fun d => HSG.out k (wr.drewN d) hik hkl (hO.drewN d))
              have HIk := hide (fun d => HI.out k (wr.drewN d) hkl (hO.drewN d))
              generalize Pu.sgn N v t[0].toNat i k = x at *
              generalize Pu.beg N v t n G m 1 k = bv at *
              have k1 : (0 : Int) ≤ (k : Int) := by omega
              have k3 : (k : Int) ≤ (n : Int) := by omega
              by_cases hx : x = 0
              · subst hx
                have HN : Aside (Pu.anyIn f (n + 1 - i) i = Pu.anyIn f (n + 1 - (k + 1)) (k + 1)) := by show _ = _; rw [HA.out, hstep.out, hfk.out]; simp
                clear HA hstep hfk HIk hO
                go_wp2_with fail
                go_quiet ((go_at_call 45; refine Calls.quiet_of (HSk.out _)))
                go_wp2_with fail
                go_roundg (n + 2 - (k + 1))
                case measure => omega
                case rel =>
                  obtain ⟨d0, hd0⟩ := HW.out
                  exact ⟨k + 1, by go_num, by omega, by omega, rfl, ⟨_, by rw [hd0]; exact drewN_drewN _ _ _⟩, HN.out⟩
              · have e1 : (x : Int) > 0 := by omega
                have e2 : (0 : Int) < (x : Int) := by omega
                have e3 : decide ((x : Int) > 0) = true := by simpa using e1
                have hx' : 0 < x := by omega
                cases bv with
                | false =>
                  have HN : Aside (Pu.anyIn f (n + 1 - i) i = Pu.anyIn f (n + 1 - (k + 1)) (k + 1)) := by show _ = _; rw [HA.out, hstep.out, hfk.out]; simp
                  clear HA hstep hfk hO
                  go_wp2_with fail
                  go_quiet (first | (go_at_call 45; refine Calls.quiet_of (HSk.out _)) | (go_at_call 83; refine Calls.quiet_of (HIk.out _)))
                  go_wp2_with fail
                  go_roundg (n + 2 - (k + 1))
                  case measure => omega
                  case rel =>
                    obtain ⟨d0, hd0⟩ := HW.out
                    exact ⟨k + 1, by go_num, by omega, by omega, rfl, ⟨_, by rw [hd0]; exact drewN_drewN _ _ _⟩, HN.out⟩
                | true =>
                  have HN : Aside (Pu.anyIn f (n + 1 - i) i = true) := by show _ = _; rw [HA.out, hstep.out, hfk.out]; simp [hx']
                  clear HA hstep hfk hO
                  go_wp2_with fail
                  go_quiet (first | (go_at_call 45; refine Calls.quiet_of (HSk.out _)) | (go_at_call 83; refine Calls.quiet_of (HIk.out _)))
                  go_wp2_with fail
                  go_ret
                  obtain ⟨d0, hd0⟩ := HW.out
                  exact ⟨by rw [HV.out, HN.out]; rfl, _, by rw [hd0]; exact drewN_drewN _ _ _⟩
            · obtain rfl : k = n + 1 := by omega
              have HN : Aside (Pu.anyIn f (n + 1 - i) i = false) := by show _ = _; rw [HA.out, Nat.sub_self]; rfl
              have k3 : ¬ ((n : Int) + 1 ≤ (n : Int)) := by omega
              clear HA hO
              go_wp2_with fail
              go_ret
              obtain ⟨d0, hd0⟩ := HW.out
              exact ⟨by rw [HV.out, HN.out]; rfl, _, hd0⟩
      · have hn0 : Pu.nm t[0].toNat = false := by simpa using hnm
        rw [hn0] at gN
        have GN := hide gN
        rw [if_neg (fun hh => hnm hh.1)] at hval
        have HV := aside_of hval
        clear hval hnm hn0 gN hL0 hby
        go_enter Tryd.func83, Tryd.ntmps83
        go_wp2_with fail
        go_quiet ((go_at_call 59; exact Calls.quiet_of_same (GN.out _)))
        go_wp2_with fail
        clear GN
        clear c1
        go_loopg [7] (n + 2 - i) (fun z kv V => ∃ (k : Nat), kv = .int .i64 k ∧ i ≤ k ∧ k ≤ n + 1 ∧ z = n + 2 - k ∧ (∃ d, V = w.drewN d) ∧ Pu.anyIn f (n + 1 - i) i = Pu.anyIn f (n + 1 - k) k)
        case atStart => exact ⟨i, rfl, Nat.le_refl _, by omega, rfl, ⟨_, rfl⟩, rfl⟩
        case round =>
          obtain ⟨k, rfl, hik, hkv, rfl, hwr, hac⟩ := hrel
          have hO : OpAt wr bb gt gb pb top base q g cap B n v s R L N G := by obtain ⟨d, rfl⟩ := hwr; exact h.drewN d
          have HW := hide hwr
          have HA := aside_of hac
          clear hac hwr
          have c1 := hO.c1
          by_cases hkl : k ≤ n
          · have c0 := hO.c0
            have hstep : Aside (Pu.anyIn f (n + 1 - k) k = (f k || Pu.anyIn f (n + 1 - (k + 1)) (k + 1))) := by
              show _ = _
              rw [show n + 1 - k = (n + 1 - (k + 1)) + 1 by omega]; rfl
            have hfk : Aside (f k = (decide (0 < Pu.sgn N v t[0].toNat i k) && Pu.beg N v t n G m 1 k)) := by show _ = _; rw [HF.out]
            have HSk := hide (fun d => HSG.out k (wr.drewN d) hik hkl (hO.drewN d))
            have HIk := hide (fun d => HI.out k (wr.drewN d) hkl (hO.drewN d))
            generalize Pu.sgn N v t[0].toNat i k = x at *
            generalize Pu.beg N v t n G m 1 k = bv at *
            have k1 : (0 : Int) ≤ (k : Int) := by omega
            have k3 : (k : Int) ≤ (n : Int) := by omega
            by_cases hx : x = 0
            · subst hx
              have HN : Aside (Pu.anyIn f (n + 1 - i) i = Pu.anyIn f (n + 1 - (k + 1)) (k + 1)) := by show _ = _; rw [HA.out, hstep.out, hfk.out]; simp
              clear HA hstep hfk HIk hO
              go_wp2_with fail
              go_quiet ((go_at_call 45; refine Calls.quiet_of (HSk.out _)))
              go_wp2_with fail
              go_roundg (n + 2 - (k + 1))
              case measure => omega
              case rel =>
                obtain ⟨d0, hd0⟩ := HW.out
                exact ⟨k + 1, by go_num, by omega, by omega, rfl, ⟨_, by rw [hd0]; exact drewN_drewN _ _ _⟩, HN.out⟩
            · have e1 : (x : Int) > 0 := by omega
              have e2 : (0 : Int) < (x : Int) := by omega
              have e3 : decide ((x : Int) > 0) = true := by simpa using e1
              have hx' : 0 < x := by omega
              cases bv with
              | false =>
                have HN : Aside (Pu.anyIn f (n + 1 - i) i = Pu.anyIn f (n + 1 - (k + 1)) (k + 1)) := by show _ = _; rw [HA.out, hstep.out, hfk.out]; simp
                clear HA hstep hfk hO
                go_wp2_with fail
                go_quiet (first | (go_at_call 45; refine Calls.quiet_of (HSk.out _)) | (go_at_call 83; refine Calls.quiet_of (HIk.out _)))
                go_wp2_with fail
                go_roundg (n + 2 - (k + 1))
                case measure => omega
                case rel =>
                  obtain ⟨d0, hd0⟩ := HW.out
                  exact ⟨k + 1, by go_num, by omega, by omega, rfl, ⟨_, by rw [hd0]; exact drewN_drewN _ _ _⟩, HN.out⟩
              | true =>
                have HN : Aside (Pu.anyIn f (n + 1 - i) i = true) := by show _ = _; rw [HA.out, hstep.out, hfk.out]; simp [hx']
                clear HA hstep hfk hO
                go_wp2_with fail
                go_quiet (first | (go_at_call 45; refine Calls.quiet_of (HSk.out _)) | (go_at_call 83; refine Calls.quiet_of (HIk.out _)))
                go_wp2_with fail
                go_ret
                obtain ⟨d0, hd0⟩ := HW.out
                exact ⟨by rw [HV.out, HN.out]; rfl, _, by rw [hd0]; exact drewN_drewN _ _ _⟩
          · obtain rfl : k = n + 1 := by omega
            have HN : Aside (Pu.anyIn f (n + 1 - i) i = false) := by show _ = _; rw [HA.out, Nat.sub_self]; rfl
            have k3 : ¬ ((n : Int) + 1 ≤ (n : Int)) := by omega
            clear HA hO
            go_wp2_with fail
            go_ret
            obtain ⟨d0, hd0⟩ := HW.out
            exact ⟨by rw [HV.out, HN.out]; rfl, _, hd0⟩
end Go.Proofs.YthmbbiahnfpoeaaDoor

namespace Go.Proofs.YthmbbiahnfpoeaaDoor
open Go.RowKit

namespace Pu
/-- What opens ahead of a place does not matter behind it. -/
theorem beg_from {N : Nat → Nat → Nat → Nat} {v s : ByteArray} {n : Nat} {G G' : Nat → Nat → Bool} : ∀ k a i, i ≤ n → (∀ c j, i ≤ j → j < n → G c j = G' c j) → beg N v s n G k a i = beg N v s n G' k a i
  | 0, _, _, _, _ => rfl
  | k + 1, a, i, hi, hG => by
    simp only [beg]
    by_cases e : i = n
    · rw [if_pos e, if_pos e]
    · rw [if_neg e, if_neg e, hG _ i (Nat.le_refl _) (by omega), beg_from k (a + 1) (i + 1) (by omega) (fun c j h1 h2 => hG c j (by omega) h2)]
      have : anyIn (fun j => decide (0 < N (byt s a) i j) && beg N v s n G k (a + 1) j) (n + 1 - i) i = anyIn (fun j => decide (0 < N (byt s a) i j) && beg N v s n G' k (a + 1) j) (n + 1 - i) i :=
        anyIn_congr fun j h1 h2 => by rw [beg_from k (a + 1) j (by omega) (fun c x g1 g2 => hG c x (by omega) g2)]
      rw [this]
def cntB (G : Nat → Nat → Bool) (i : Nat) : Nat := sumTo (fun k => (G (65 + k) i).toNat) 26
theorem cntB_le26 (G : Nat → Nat → Bool) (i : Nat) : cntB G i ≤ 26 := by
  have h : ∀ (f : Nat → Nat), (∀ k, f k ≤ 1) → ∀ m, sumTo f m ≤ m := fun f hf m => by
    induction m with
    | zero => exact Nat.le_refl _
    | succ m ih => simp only [sumTo]; have := hf m; omega
  exact h _ (fun k => by cases G (65 + k) i <;> decide) 26
theorem cntB_le {G H : Nat → Nat → Bool} {i : Nat} (h : ∀ c i, G c i = true → H c i = true) : cntB G i ≤ cntB H i :=
  sumTo_le _ fun k _ => by
    have := h (65 + k) i
    cases hg : G (65 + k) i <;> cases hh : H (65 + k) i <;> simp_all
theorem cntB_lt {G H : Nat → Nat → Bool} {i k : Nat} (h : ∀ c i, G c i = true → H c i = true) (hk : k < 26) (hg : G (65 + k) i = false) (hh : H (65 + k) i = true) : cntB G i < cntB H i := by
  have hle : ∀ k, (G (65 + k) i).toNat ≤ (H (65 + k) i).toNat := fun k => by
    have := h (65 + k) i
    cases hg : G (65 + k) i <;> cases hh : H (65 + k) i <;> simp_all
  exact sumTo_lt _ (fun k _ => hle k) ⟨k, hk, by rw [hg, hh]; decide⟩
/-- One widening at place fr, when r rules are gone through. -/
structure Wid (N : Nat → Nat → Nat → Nat) (v s : ByteArray) (R : List (Nat × Nat)) (n : Nat) (G0 G : Nat → Nat → Bool) (b : Bool) (fr r : Nat) : Prop where
  under : Under N v s R n G
  no : b = false → G = G0 ∧ ∀ r' (h : r' < R.length), r' < r → beg N v s n G (R[r'].2 - (R[r'].1 + 2)) (R[r'].1 + 2) fr = true → G (byt s R[r'].1) fr = true
  yes : b = true → cntB G0 fr < cntB G fr
  le : ∀ c i, G0 c i = true → G c i = true
  other : ∀ c i, i ≠ fr → G c i = G0 c i
section
variable {N : Nat → Nat → Nat → Nat} {v s : ByteArray} {R : List (Nat × Nat)} {n : Nat} {G0 G : Nat → Nat → Bool} {b : Bool} {r fr : Nat}
theorem Wid.start (h : Under N v s R n G) : Wid N v s R n G G false fr 0 := ⟨h, fun _ => ⟨rfl, fun _ _ h => by omega⟩, fun h => (by cases h), fun _ _ h => h, fun _ _ _ => rfl⟩
theorem Wid.skip (h : Wid N v s R n G0 G b fr r) (hr : r < R.length) (hs : beg N v s n G (R[r].2 - (R[r].1 + 2)) (R[r].1 + 2) fr = true → G (byt s R[r].1) fr = true) : Wid N v s R n G0 G b fr (r + 1) :=
  ⟨h.under, fun hb => ⟨(h.no hb).1, fun r' hl hor hbg => by
    by_cases e : r' = r
    · subst e; exact hs hbg
    · exact (h.no hb).2 r' hl (by omega) hbg⟩, h.yes, h.le, h.other⟩
theorem Wid.set (h : Wid N v s R n G0 G b fr r) (hG : Good s R) (hr : r < R.length) (hb : beg N v s n G (R[r].2 - (R[r].1 + 2)) (R[r].1 + 2) fr = true) (hg : G (byt s R[r].1) fr = false) : Wid N v s R n G0 (addG G (byt s R[r].1) fr) true fr (r + 1) := by
  have hle : ∀ c j, G c j = true → addG G (byt s R[r].1) fr c j = true := fun c j h => by unfold addG; split <;> simp_all
  obtain ⟨h65, h90, _, _⟩ := hG R[r] (List.getElem_mem hr)
  refine ⟨h.under.add (List.getElem_mem hr) hb, fun h => (by cases h), fun _ => ?_, fun c j hc => hle c j (h.le c j hc), fun c i hi => ?_⟩
  · have a := cntB_le (i := fr) h.le
    have b := cntB_lt (k := byt s R[r].1 - 65) hle (by omega) (by rw [show 65 + (byt s R[r].1 - 65) = byt s R[r].1 by omega]; exact hg) (by rw [show 65 + (byt s R[r].1 - 65) = byt s R[r].1 by omega]; simp [addG])
    omega
  · unfold addG; rw [if_neg (fun e => hi e.2)]; exact h.other c i hi
end
/-- All that opens at fr and behind it is known. -/
structure Wide (N : Nat → Nat → Nat → Nat) (v s : ByteArray) (R : List (Nat × Nat)) (n : Nat) (G : Nat → Nat → Bool) (fr : Nat) : Prop where
  under : Under N v s R n G
  from_ : ∀ c i, fr ≤ i → i < n → Opens N v s R n G c i → G c i = true
section
variable {N : Nat → Nat → Nat → Nat} {v s : ByteArray} {R : List (Nat × Nat)} {n : Nat} {G G' : Nat → Nat → Bool} {b : Bool} {fr : Nat}
theorem Wide.start : Wide N v s R n (fun _ _ => false) n := ⟨Under.start, fun _ i h1 h2 => by omega⟩
theorem Wide.again (h : Wide N v s R n G (fr + 1)) (hw : Wid N v s R n G G' b fr R.length) : Wide N v s R n G' (fr + 1) :=
  ⟨hw.under, fun c i h1 h2 ⟨r, hr, e, hb⟩ => hw.le c i (h.from_ c i h1 h2 ⟨r, hr, e, by rw [← hb]; exact beg_from _ _ _ (by omega) (fun c j g1 g2 => (hw.other c j (by omega)).symm)⟩)⟩
theorem Wide.next (h : Wide N v s R n G (fr + 1)) (hw : Wid N v s R n G G' false fr R.length) : Wide N v s R n G fr := by
  obtain ⟨e, hno⟩ := hw.no rfl
  subst e
  refine ⟨h.under, fun c i h1 h2 ho => ?_⟩
  by_cases e : i = fr
  · subst e
    obtain ⟨r, hr, e, hb⟩ := ho
    obtain ⟨k, hk, rfl⟩ := List.mem_iff_getElem.1 hr
    subst e
    exact hno k hk hk hb
  · exact h.from_ c i (by omega) h2 ho
theorem Wide.lfp (h : Wide N v s R n G 0) : Lfp N v s R n G := ⟨fun c i hi ho => h.from_ c i (Nat.zero_le _) hi ho, h.under⟩
end
end Pu

/-- The beginning that is being looked at, behind a world with the chart. -/
structure BegP (w V : World) (pb n : Nat) (L : List Nat) (G : Nat → Nat → Bool) : Prop where
  bel : Below w.heap.size w V
  blk : V.heap[w.heap.size + 1]? = some (.cells #[.pointer (some ⟨pb, 0, none⟩), .int .i64 n, .slice (some ⟨w.heap.size, 0, none⟩) L.length L.length] 144 (0, 0))
  gd : Grid V w.heap.size (w.heap.size + 2) L.length n (fun k i => G (L.getD k 0) i)
section
variable {w V V' : World} {pb top base q g cap B n : Nat} {v s : ByteArray} {R : List (Nat × Nat)} {L : List Nat} {N : Nat → Nat → Nat → Nat} {G : Nat → Nat → Bool}
theorem BegP.at (h : BegP w V pb n L G) (hP : ProgAt w pb top base q g cap B v s R L N) : OpAt V (w.heap.size + 1) w.heap.size (w.heap.size + 2) pb top base q g cap B n v s R L N G := ⟨h.blk, hP.below h.bel, h.gd⟩
theorem BegP.below (h : BegP w V pb n L G) (hb : Below V.heap.size V V') : BegP w V' pb n L G := ⟨h.bel.trans (hb.mono h.bel.size), by rw [hb.block _ (lt_heap h.blk)]; exact h.blk, h.gd.below hb⟩
theorem BegP.drewN (h : BegP w V pb n L G) (m : Nat) : BegP w (V.drewN m) pb n L G := h.below (Go.below_drewN (Below.refl _ _) m)
theorem BegP.alloc (h : BegP w V pb n L G) (o : Obj) : BegP w (V.alloc o) pb n L G := h.below ((Below.refl _ _).alloc (Nat.le_refl _) _)
theorem BegP.set (h : BegP w V pb n L G) (hnd : L.Nodup) {c i : Nat} (hc : c ∈ L) : BegP w (V.setCell ⟨w.heap.size + 2 + L.idxOf c, i, none⟩ (.bool true)) pb n L (Pu.addG G c i) := by
  refine ⟨h.bel.setCell (by show w.heap.size ≤ w.heap.size + 2 + L.idxOf c; omega) _, ?_, (h.gd.set (i := i) (idx_lt hc)).congr fun k j hk _ => ?_⟩
  · rw [Below.heap_setCell _ _ _ _ (by show w.heap.size + 1 ≠ w.heap.size + 2 + L.idxOf c; omega)]; exact h.blk
  · unfold Pu.addG
    by_cases e : k = L.idxOf c
    · subst e
      rw [getD_idxOf hc]
      by_cases ej : j = i
      · rw [if_pos ⟨rfl, ej⟩, if_pos ⟨rfl, ej⟩]
      · rw [if_neg (fun hh => ej hh.2), if_neg (fun hh => ej hh.2)]
        show G (L.getD (L.idxOf c) 0) j = G c j
        rw [getD_idxOf hc]
    · rw [if_neg (fun hh => e hh.1), if_neg (fun hh => e (by rw [← hh.1, idxOf_getD hnd hk]))]
end

set_option maxRecDepth 100000 in
set_option maxHeartbeats 2000000 in
theorem widen_any (pb top base q g cap B n fr : Nat) (v s : ByteArray) (R : List (Nat × Nat)) (L : List Nat) (N : Nat → Nat → Nat → Nat) (G : Nat → Nat → Bool) (w V : World) (hv : v.size ≤ 24) (hn : n ≤ v.size) (hfr : fr < n) (hG : Pu.Good s R) (hS : Pu.Signed s R) (hn8 : R.length ≤ 8) (hnd : L.Nodup) (hLR : ∀ r ∈ R, Pu.byt s r.1 ∈ L)
    (hLC : ∀ r ∈ R, ∀ a, r.1 + 2 ≤ a → a < r.2 → Pu.nm (Pu.byt s a) = true → Pu.byt s a ∈ L) (hP : ProgAt w pb top base q g cap B v s R L N) (hB : BegP w V pb n L G) (hU : Pu.Under N v s R n G) :
    Calls Tryd.prog 75 #[.pointer (some ⟨w.heap.size + 1, 0, none⟩), .int .i64 fr] V fun e w' => ∃ b G', e = .returned (.bool b) ∧ BegP w w' pb n L G' ∧ Pu.Wid N v s R n G G' b fr R.length := by
  have hO := hB.at hP
  have c0 := hO.c0
  have p0 := hO.pr.c0
  have g0 := hO.pr.gr.c0
  have HW0 := hide (Pu.Wid.start (fr := fr) hU)
  have HP := hide (fun V (h : Below w.heap.size w V) => hP.below h)
  have HAT := hide (fun (V : World) (G : Nat → Nat → Bool) (h : BegP w V pb n L G) => h.at hP)
  have HG := hide hG
  have HS := hide hS
  have HLC := hide hLC
  have HRW : Hid (∀ (G : Nat → Nat → Bool) (V : World) (r : Nat) (hr : r < R.length), BegP w V pb n L G → Calls Tryd.prog 83 #[.pointer (some ⟨w.heap.size + 1, 0, none⟩), .string (sub s (R[r].1 + 2) R[r].2), .int .i64 fr] V fun e w' => e = .returned (.bool (Pu.beg N v s n G (R[r].2 - (R[r].1 + 2)) (R[r].1 + 2) fr)) ∧ ∃ d, w' = V.drewN d) := by
    intro G V r hr hV
    obtain ⟨h65, h90, hr1, hr2⟩ := hG R[r] (List.getElem_mem hr)
    obtain ⟨hr5, hsg⟩ := hS R[r] (List.getElem_mem hr)
    have hsz := size_sub (s := s) (a := R[r].1 + 2) hr2
    have := row_any (w.heap.size + 1) w.heap.size (w.heap.size + 2) pb top base q g cap B n v s R L N G hv hn (R[r].2 - (R[r].1 + 2)) (sub s (R[r].1 + 2) R[r].2) fr V hsz (by omega) (fun a ha => by rw [hsz] at ha; rw [byt_sub hr2 ha]; exact hsg _ (by omega) (by omega)) (fun a ha => by rw [hsz] at ha; rw [byt_sub hr2 ha]; exact hLC _ (List.getElem_mem hr) _ (by omega) (by omega)) (by omega) (hV.at hP)
    rw [beg_sub hr2 _ _ _ (by omega)] at this
    exact this
  clear hG hS hLC hO hU
  go_enter Tryd.func75, Tryd.ntmps75
  go_wp2_with fail
  clear c0 p0 g0
  go_loopg [5, 20] (R.length + 1) (fun z bv rv V => ∃ (G' : Nat → Nat → Bool) (b : Bool) (r : Nat), bv = .bool b ∧ rv = .int .i64 r ∧ r ≤ R.length ∧ z = R.length + 1 - r ∧ BegP w V pb n L G' ∧ Pu.Wid N v s R n G G' b fr r)
  case atStart => exact ⟨G, false, 0, rfl, rfl, Nat.zero_le _, rfl, hB, HW0.out⟩
  case round =>
    clear hB HW0
    obtain ⟨G', b, r, rfl, rfl, hr, rfl, hB, hWi⟩ := hrel
    by_cases hrl : r < R.length
    · have hO := HAT.out _ _ hB
      obtain ⟨f0, f1, f2⟩ := hO.pr.gr.rules r hrl
      have hmem : R[r] ∈ R := List.getElem_mem hrl
      have hcL := hLR R[r] hmem
      have h256 := Pu.byt_lt s R[r].1
      have b1 : (0 : Int) ≤ (r : Int) := by omega
      have b2 : (r : Int) < (R.length : Int) := by omega
      have hB1 := hB.alloc (.cells #[.int .u8 ↑(Pu.byt s R[r].1), .string (sub s (R[r].1 + 2) R[r].2), .int .i64 R[r].1] 115)
      have HRr := hide (fun V h => HRW.out G' V r hrl h)
      have hskip := hWi.skip hrl
      have hset := hWi.set HG.out hrl
      generalize Pu.byt s R[r].1 = c at *
      generalize sub s (R[r].1 + 2) R[r].2 = t at *
      generalize Pu.beg N v s n G' (R[r].2 - (R[r].1 + 2)) (R[r].1 + 2) fr = bv at *
      generalize R[r].1 = p3 at *
      have hrb : w.heap.size + 2 + L.idxOf c < wr.heap.size := by
        obtain ⟨cs, hh, _⟩ := hB.gd.row (L.idxOf c) (idx_lt hcL)
        exact lt_heap hh
      go_wp2_with fail
      have k0 : (wr.alloc (.cells #[.int .u8 c, .string t, .int .i64 p3] 115)).cell? ⟨wr.heap.size, 0, none⟩ = some (.int .u8 c) := by simp
      have k1 : (wr.alloc (.cells #[.int .u8 c, .string t, .int .i64 p3] 115)).cell? ⟨wr.heap.size, 1, none⟩ = some (.string t) := by simp
      clear hB hO f0 f1 f2
      generalize hV1 : wr.alloc (.cells #[.int .u8 c, .string t, .int .i64 p3] 115) = V1 at *
      clear hV1
      generalize wr.heap.size = rb at *
      clear wr
      have hO1 := HAT.out _ _ hB1
      have c0 := hO1.c0
      have c2 := hO1.c2
      have p0 := hO1.pr.c0
      have NB := hide (fun d => Number_any q g cap B s R L c (V1.drewN d) (hO1.pr.gr.drewN d) h256 hcL)
      have g1 := hO1.g1 hcL
      have g2 := hO1.g2 hcL hfr
      have g3 := hO1.gd.frozen (idx_lt hcL) fr
      have hix := idx_lt hcL
      have HSET := hide (fun d => (hB1.drewN d).set (i := fr) hnd hcL)
      have HRQ := hide (fun d => HRr.out _ (hB1.drewN d))
      have HBD := hide (fun d => hB1.drewN d)
      clear hO1 hB1 HRr
      generalize L.idxOf c = ix at *
      generalize hgr : w.heap.size + 2 + ix = gr at *
      generalize hgo : G' c fr = go at *
      have e1 : ¬ gr = rb := by omega
      have e2 : ¬ rb = gr := by omega
      have e3 : ¬ gr = w.heap.size := by omega
      have e4 : ¬ w.heap.size = gr := by omega
      have e5 : ¬ gr = w.heap.size + 1 := by omega
      have e6 : ¬ w.heap.size + 1 = gr := by omega
      have b4 : (0 : Int) ≤ (ix : Int) := by omega
      have b5 : (ix : Int) < (L.length : Int) := by omega
      have b6 : (0 : Int) ≤ (fr : Int) := by omega
      have b7 : (fr : Int) < (n : Int) := by omega
      go_quiet ((go_at_call 62; refine Calls.quiet_of_same (NB.out _)))
      cases go with
      | true =>
        have hX := hskip (fun _ => rfl)
        clear hskip hset
        go_wp2_with fail
        go_roundg (R.length + 1 - (r + 1))
        case measure => omega
        case rel => exact ⟨G', b, r + 1, rfl, by go_num, by omega, rfl, HBD.out _, hX⟩
      | false =>
        cases bv with
        | false =>
          have hX := hskip (fun h => by cases h)
          clear hskip hset
          go_wp2_with (go_at_call 83; refine (HRQ.out _).mono ?_; rintro e w2 ⟨rfl, q2, rfl⟩)
          go_roundg (R.length + 1 - (r + 1))
          case measure => omega
          case rel => exact ⟨G', b, r + 1, rfl, by go_num, by omega, rfl, HBD.out _, hX⟩
        | true =>
          have hX := hset rfl rfl
          clear hskip hset
          go_wp2_with (go_at_call 83; refine (HRQ.out _).mono ?_; rintro e w2 ⟨rfl, q2, rfl⟩)
          go_roundg (R.length + 1 - (r + 1))
          case measure => omega
          case rel => exact ⟨Pu.addG G' c fr, true, r + 1, rfl, by go_num, by omega, rfl, HSET.out _, hX⟩
    · obtain rfl : r = R.length := by omega
      go_wp2_with fail
      go_ret
      exact ⟨b, G', rfl, hB, hWi⟩
end Go.Proofs.YthmbbiahnfpoeaaDoor

namespace Go.Proofs.YthmbbiahnfpoeaaDoor
open Go.RowKit

theorem StartP_any (q g cap B : Nat) (s : ByteArray) (R : List (Nat × Nat)) (L : List Nat) (w : World) (h : GrAt w q g cap B s R L) (hR : 0 < R.length) :
    Calls Tryd.prog 44 #[.pointer (some ⟨q, 0, none⟩)] w fun e w' => e = .returned (.int .u8 ↑(Pu.byt s (R[0]'hR).1)) ∧ w' = w := by
  have c0 := h.c0
  obtain ⟨f0, _, _⟩ := h.rules 0 hR
  have b1 : (0 : Int) < (R.length : Int) := by omega
  generalize Pu.byt s (R[0]'hR).1 = c at *
  clear h
  go_enter Tryd.func44, Tryd.ntmps44
  go_wp2
  go_ret
  exact ⟨rfl, rfl⟩
/-- The beginning in the making. -/
structure MakB (w V : World) (pb n A K : Nat) : Prop where
  half : HalfG w V w.heap.size (w.heap.size + 2) A n K
  blk : V.heap[w.heap.size + 1]? = some (.cells #[.pointer (some ⟨pb, 0, none⟩), .int .i64 n, .slice (some ⟨w.heap.size, 0, none⟩) A A] 144 (0, 0))
section
variable {w V : World} {pb n A K : Nat}
theorem MakB.start (w : World) (pb n A : Nat) : MakB w ((w.alloc (.cells (zNil A) 56)).alloc (.cells #[.pointer (some ⟨pb, 0, none⟩), .int .i64 n, .slice (some ⟨w.heap.size, 0, none⟩) A A] 144)) pb n A 0 := by
  refine ⟨HalfG.start _ (((Below.refl _ _).alloc (Nat.le_refl _) _).alloc (by simp) _) ?_ (Nat.le_refl _) (by omega) (by simp), ?_⟩
  · rw [Below.heap_alloc _ _ _ (by simp)]; exact heap_alloc_new w _
  · have := heap_alloc_new (w.alloc (.cells (zNil A) 56)) (.cells #[.pointer (some ⟨pb, 0, none⟩), .int .i64 n, .slice (some ⟨w.heap.size, 0, none⟩) A A] 144)
    simpa using this
theorem MakB.addRow (h : MakB w V pb n A K) (hK : K < A) : MakB w ((V.setCell ⟨w.heap.size, K, none⟩ (.slice (some ⟨V.heap.size, 0, none⟩) n n)).alloc (.cells (zBools n) 4)).drew pb n A (K + 1) := by
  refine ⟨(h.half.addRow hK).drew, ?_⟩
  show ((V.setCell ⟨w.heap.size, K, none⟩ (.slice (some ⟨V.heap.size, 0, none⟩) n n)).alloc (.cells (zBools n) 4)).heap[w.heap.size + 1]? = _
  rw [Below.heap_alloc _ _ _ (by simp; exact lt_heap h.blk), Below.heap_setCell _ _ _ _ (by show w.heap.size + 1 ≠ w.heap.size; omega)]
  exact h.blk
theorem MakB.done {L : List Nat} (h : MakB w V pb n L.length L.length) : BegP w V pb n L (fun _ _ => false) := ⟨h.half.bel, h.blk, h.half.done⟩
end

set_option maxRecDepth 100000 in
set_option maxHeartbeats 2000000 in
theorem beginsP_any (pb top base q g cap B n : Nat) (v s : ByteArray) (R : List (Nat × Nat)) (L : List Nat) (N : Nat → Nat → Nat → Nat) (w : World) (hv : v.size ≤ 24) (hn : n ≤ v.size) (h0 : 0 < n) (hG : Pu.Good s R) (hS : Pu.Signed s R) (hn8 : R.length ≤ 8) (hR : 0 < R.length) (hnd : L.Nodup) (hl8 : L.length ≤ 8) (hLR : ∀ r ∈ R, Pu.byt s r.1 ∈ L)
    (hLC : ∀ r ∈ R, ∀ a, r.1 + 2 ≤ a → a < r.2 → Pu.nm (Pu.byt s a) = true → Pu.byt s a ∈ L) (hP : ProgAt w pb top base q g cap B v s R L N) :
    Calls Tryd.prog 52 #[.pointer (some ⟨pb, 0, none⟩), .int .i64 n] w fun e w' => Below w.heap.size w w' ∧ ∃ b, e = .returned (.bool b) ∧ Pu.Bg N v s R (Pu.byt s (R[0]'hR).1) n b := by
  have c2 := hP.c2
  have hpl := lt_heap hP.blk
  have m108 := make108 L.length (by omega)
  have m56 := make56 n (by omega)
  have hM0 := MakB.start w pb n L.length
  have HAT := hide (fun (V : World) (G : Nat → Nat → Bool) (h : BegP w V pb n L G) => h.at hP)
  have HWD := hide (fun (fr : Nat) (G : Nat → Nat → Bool) (V : World) (hfr : fr < n) (hB : BegP w V pb n L G) hU => widen_any pb top base q g cap B n fr v s R L N G w V hv hn hfr hG hS hn8 hnd hLR hLC hP hB hU)
  have hcL := hLR _ (List.getElem_mem hR)
  have h256 := Pu.byt_lt s (R[0]'hR).1
  clear hG hS hLC hLR hP
  go_enter Tryd.func52, Tryd.ntmps52
  go_wp2_with fail
  clear c2 m108
  go_loopg [20] (L.length + 1) (fun z kv V => ∃ k : Nat, kv = .int .i64 k ∧ k ≤ L.length ∧ z = L.length + 1 - k ∧ MakB w V pb n L.length k)
  case atStart => exact ⟨0, rfl, Nat.zero_le _, rfl, hM0⟩
  case round =>
    clear hM0
    obtain ⟨k, rfl, hk, rfl, hM⟩ := hrel
    by_cases hkl : k < L.length
    · have hT := hM.addRow hkl
      have c2 : wr.cell? ⟨w.heap.size + 1, 2, none⟩ = some (.slice (some ⟨w.heap.size, 0, none⟩) L.length L.length) := by have := hM.blk; simp [World.cell?, this]
      obtain ⟨cs, ht, hz, hc⟩ := hM.half.top
      have htl := lt_heap ht
      have hbl := lt_heap hM.blk
      have hct : ∃ x, wr.cell? ⟨w.heap.size, k, none⟩ = some x := by
        simp only [World.cell?, ht]
        exact ⟨cs[k], by simp⟩
      obtain ⟨x0, hx0⟩ := hct
      have hf0 : wr.frozen? ⟨w.heap.size, k, none⟩ = false := by simp [World.frozen?, ht]
      have n1 : ¬ wr.heap.size = w.heap.size := by omega
      have n2 : ¬ w.heap.size = wr.heap.size := by omega
      have n3 : ¬ wr.heap.size = w.heap.size + 1 := by omega
      have n4 : ¬ w.heap.size + 1 = wr.heap.size := by omega
      have n5 : ¬ w.heap.size + 1 = w.heap.size := by omega
      have b1 : (0 : Int) ≤ (k : Int) := by omega
      have b2 : (k : Int) < (L.length : Int) := by omega
      clear hM ht hz hc
      go_wp2_with fail
      go_region_held3 (fun w' => w'.cell? ⟨w.heap.size + 1, 2, none⟩ = some (.slice (some ⟨w.heap.size, 0, none⟩) L.length L.length)) (go_keep) (fail)
      all_goals
        go_wp2_with fail
        go_roundg (L.length + 1 - (k + 1))
        case measure => omega
        case rel => exact ⟨k + 1, by go_num, by omega, rfl, hT⟩
    · obtain rfl : k = L.length := by omega
      have hB := hM.done
      clear hM m56
      have hst : ((n : Int) - 1) = ((n : Int) - 1) := rfl
      go_wp2_with fail
      go_loopg [7] (n + 1) (fun z kv V => ∃ (fr : Nat) (G : Nat → Nat → Bool), kv = .int .i64 ((fr : Int) - 1) ∧ fr ≤ n ∧ z = fr + 1 ∧ BegP w V pb n L G ∧ Pu.Wide N v s R n G fr)
      case atStart => exact ⟨n, _, by go_num, Nat.le_refl _, rfl, hB, Pu.Wide.start⟩
      case round =>
        clear hB hst
        obtain ⟨fr, G, rfl, hfr, rfl, hB, hW⟩ := hrel
        cases fr with
        | zero =>
          have HL := aside_of hW.lfp
          have hO := HAT.out _ _ hB
          have c0 := hO.pr.c0
          have c2 := hO.c2
          have g1 := hO.g1 hcL
          have g2 := hO.g2 hcL h0
          have hix := idx_lt hcL
          have hbl := hB.bel
          have HST := hide (fun d => StartP_any q g cap B s R L (wr.drewN d) (hO.pr.gr.drewN d) hR)
          have HNU := hide (fun d => Number_any q g cap B s R L (Pu.byt s (R[0]'hR).1) (wr.drewN d) (hO.pr.gr.drewN d) h256 hcL)
          clear hO hB hW HWD HAT
          generalize hcc : Pu.byt s (R[0]'hR).1 = c at *
          generalize L.idxOf c = ix at *
          generalize w.heap.size + 2 + ix = gr at *
          generalize hbb : G c 0 = bb at *
          have b3 : (0 : Int) ≤ (ix : Int) := by omega
          have b4 : (ix : Int) < (L.length : Int) := by omega
          have b5 : (0 : Int) < (n : Int) := by omega
          go_wp2_with fail
          go_quiet (first | (go_at_call 44; exact Calls.quiet_of_same (HST.out _)) | (go_at_call 62; exact Calls.quiet_of_same (HNU.out _)))
          go_wp2_with fail
          go_ret
          exact ⟨Go.below_drewN hbl _, bb, rfl, G, HL.out, by rw [hcc]; exact hbb.symm⟩
        | succ fr =>
          have f1 : (((fr + 1 : Nat)) : Int) - 1 = (fr : Int) := by omega
          rw [f1]
          have f2 : (fr : Int) ≥ 0 := by omega
          have f3 : (0 : Int) ≤ (fr : Int) := by omega
          go_wp2_with fail
          go_loopg [] (27 - Pu.cntB G fr) (fun z V => ∃ (G : Nat → Nat → Bool), z = 27 - Pu.cntB G fr ∧ BegP w V pb n L G ∧ Pu.Wide N v s R n G (fr + 1))
          case atStart => exact ⟨G, rfl, hB, hW⟩
          case round =>
            clear hB hW
            obtain ⟨G, rfl, hB, hW⟩ := hrel
            have HC := hide (HWD.out fr G _ (by omega) hB hW.under)
            clear hB
            go_wp2_with (go_at_call 75; refine HC.out.mono ?_; rintro e w2 ⟨bb, G', rfl, hB, hWi⟩; cases bb)
            · have hX := hW.next hWi
              have hBB : BegP w w2 pb n L G := by rw [← (hWi.no rfl).1]; exact hB
              clear hW hWi hB
              go_roundg (fr + 1)
              case measure => omega
              case rel => exact ⟨fr, G, by go_num, by omega, rfl, hBB, hX⟩
            · have hX := hW.again hWi
              have hlt := hWi.yes rfl
              have h26 := Pu.cntB_le26 G' fr
              clear hW hWi
              go_roundg (27 - Pu.cntB G' fr)
              case measure => omega
              case rel => exact ⟨G', rfl, hB, hX⟩

set_option maxHeartbeats 1000000 in
theorem PrefixP_any (pb top base q g cap B : Nat) (v s : ByteArray) (R : List (Nat × Nat)) (L : List Nat) (N : Nat → Nat → Nat → Nat) (w : World) (hv : v.size ≤ 24) (hG : Pu.Good s R) (hS : Pu.Signed s R) (hn8 : R.length ≤ 8) (hR : 0 < R.length) (hnd : L.Nodup) (hl8 : L.length ≤ 8) (hLR : ∀ r ∈ R, Pu.byt s r.1 ∈ L)
    (hLC : ∀ r ∈ R, ∀ a, r.1 + 2 ≤ a → a < r.2 → Pu.nm (Pu.byt s a) = true → Pu.byt s a ∈ L) (hP : ProgAt w pb top base q g cap B v s R L N) :
    Calls Tryd.prog 31 #[.pointer (some ⟨pb, 0, none⟩)] w fun e w' => Below w.heap.size w w' ∧ ∃ p : Nat, e = .returned (.int .i64 p) ∧ Pu.Pfx N v s R (Pu.byt s (R[0]'hR).1) v.size p := by
  have c1 := hP.c1
  have HB := hide (fun (V : World) (n : Nat) (hb : Below w.heap.size w V) (hn : n ≤ v.size) (h0 : 0 < n) => beginsP_any pb top base q g cap B n v s R L N V hv hn h0 hG hS hn8 hR hnd hl8 hLR hLC (hP.below hb))
  clear hG hS hn8 hnd hl8 hLR hLC hP
  go_enter Tryd.func31, Tryd.ntmps31
  go_wp2_with fail
  clear c1
  go_loopg [3] (v.size + 1) (fun z nv V => ∃ k : Nat, nv = .int .i64 k ∧ k ≤ v.size ∧ z = k + 1 ∧ Below w.heap.size w V ∧ ∀ p, Pu.Pfx N v s R (Pu.byt s (R[0]'hR).1) k p → Pu.Pfx N v s R (Pu.byt s (R[0]'hR).1) v.size p)
  case atStart => exact ⟨v.size, rfl, Nat.le_refl _, rfl, Below.refl _ _, fun _ h => h⟩
  case round =>
    obtain ⟨k, rfl, hk, rfl, hbV, hpf⟩ := hrel
    have HPF := aside_of hpf
    clear hpf
    cases k with
    | zero =>
      have HX := aside_of (HPF.out 0 rfl)
      clear HPF HB
      go_wp2_with fail
      go_ret
      exact ⟨hbV, 0, rfl, HX.out⟩
    | succ k =>
      have HC := hide (HB.out _ (k + 1) hbV hk (by omega))
      have k1 : (((k + 1 : Nat)) : Int) > 0 := by omega
      generalize hkk : k + 1 = kk at *
      clear HB
      go_wp2_with fail
      refine HC.out.mono ?_
      rintro e w4 ⟨hb4, b, rfl, hBg⟩
      have hb34 := hbV.trans (hb4.mono hbV.size)
      cases b with
      | true =>
        have HX := aside_of (HPF.out kk (by rw [← hkk] at hBg ⊢; exact .inl ⟨hBg, rfl⟩))
        clear HPF hBg HC
        go_wp2_with fail
        go_ret
        exact ⟨hb34, kk, rfl, HX.out⟩
      | false =>
        have HX : Aside (∀ p, Pu.Pfx N v s R (Pu.byt s (R[0]'hR).1) k p → Pu.Pfx N v s R (Pu.byt s (R[0]'hR).1) v.size p) := fun p hp => HPF.out p (by rw [← hkk] at hBg ⊢; exact .inr ⟨hBg, hp⟩)
        clear HPF hBg HC
        subst hkk
        go_wp2_with fail
        go_roundg (k + 1)
        case measure => omega
        case rel => exact ⟨k, by go_num, by omega, rfl, hb34, HX.out⟩
end Go.Proofs.YthmbbiahnfpoeaaDoor

namespace Go.Proofs.YthmbbiahnfpoeaaDoor
open Go.RowKit

set_option maxHeartbeats 1000000 in
theorem SPrefix_any (s v : ByteArray) (m : Nat) (x0 x1 x2 x3 x4 : Addr) (w : World) (h : Laid w x0 x1 x2 x3 x4) (n : Apart x0 x1 x2 x3 x4) (hm : Pu.Cnt v s (Pu.rulesOf s) v.size (Pu.lvl v s (Pu.rulesOf s) m)) :
    Calls Tryd.prog 16 #[.string s, .string v] w fun e w' => Below w.heap.size w w' ∧ ∃ (k a p : Nat), e = .returned (.tuple #[.int .i64 k, .int .i64 a, .int .i64 p]) ∧ Pu.Prf s v m k a p := by
  have HL := hide (fun V (hb : Below w.heap.size w V) => h.below hb)
  have HR := hide (read_any s v m x0 x1 x2 x3 x4 w h hm)
  have HN := hide n
  clear h n hm
  go_enter Tryd.func16, Tryd.ntmps16
  go_wp2_with fail
  refine HR.out.mono ?_
  rintro e w1 ⟨hb1, a, p, hC, hans⟩
  have hL1 := HL.out _ hb1
  clear HR
  rcases hans with ⟨ha, rfl⟩ | ⟨rfl, c, d, hW, ⟨hc, rfl⟩ | ⟨rfl, hv, hpr, hcl, pb, top, base, q, g, cap, B, rfl, hP⟩⟩
  · obtain ⟨hle, hp0⟩ := chk_le hC
    have HT : Hid (Pu.Prf s v m 0 a p) := ⟨a, p, hC, by rw [if_neg ha]; exact ⟨rfl, rfl, rfl⟩⟩
    obtain ⟨y, hy⟩ := errV_shape (kd := kdG) (x0 := x0) (x1 := x1) (x2 := x2) (x3 := x3) (p := p) ha
    have HNU := hide (number_any kdG x0 x1 x2 x3 x4 a p hle w1 hL1 HN.out.n10 HN.out.n20 HN.out.n21 HN.out.n30 HN.out.n31 HN.out.n32)
    have HPL := hide (fun V (hb : Below w1.heap.size w1 V) => place_any kdG x0 x1 x2 x3 x4 a p hle hp0 V (hL1.below hb))
    rw [hy] at HNU HPL ⊢
    clear hy hC ha
    go_wp2_with (first | (go_at_call 21; refine HNU.out.mono ?_; rintro e w2 ⟨rfl, hb2⟩) | (go_at_call 22; refine (HPL.out _ hb2).mono ?_; rintro e w3 ⟨rfl, hb3⟩))
    go_ret3
    exact ⟨(hb1.trans (hb2.mono hb1.size)).trans (hb3.mono (Nat.le_trans hb1.size hb2.size)), 0, a, p, rfl, HT.out⟩
  · obtain ⟨hle, hp0⟩ := wrd_le hW
    have HT : Hid (Pu.Prf s v m 0 c d) := ⟨0, p, hC, by rw [if_pos rfl]; exact ⟨c, d, hW, by rw [if_neg hc]; exact ⟨rfl, rfl, rfl⟩⟩⟩
    obtain ⟨y, hy⟩ := errW_shape (kd := kdW) (x0 := x0) (x4 := x4) (p := d) hc
    have HNU := hide (numberW_any kdW x0 x1 x2 x3 x4 c d hle w1 hL1 HN.out)
    have HPL := hide (fun V (hb : Below w1.heap.size w1 V) => placeW_any kdW x0 x1 x2 x3 x4 c d hle hp0 V (hL1.below hb))
    rw [hy] at HNU HPL ⊢
    clear hy hC hc hW
    go_wp2_with (first | (go_at_call 21; refine HNU.out.mono ?_; rintro e w2 ⟨rfl, hb2⟩) | (go_at_call 22; refine (HPL.out _ hb2).mono ?_; rintro e w3 ⟨rfl, hb3⟩))
    go_ret3
    exact ⟨(hb1.trans (hb2.mono hb1.size)).trans (hb3.mono (Nat.le_trans hb1.size hb2.size)), 0, c, d, rfl, HT.out⟩
  · obtain ⟨_, rfl, _⟩ := wrd_ok hW
    obtain ⟨_, rfl, _⟩ := chk_ok hC
    have hgd := Pu.parse_good s 8 0
    have hS := Pu.parse_signed s 8 0
    have hhd := Pu.parse_head s 8 0
    have hne : 0 < (Pu.rulesOf s).length := List.length_pos_iff.2 (hgd.2.2 hpr)
    have hfst : ((Pu.rulesOf s)[0]'hne).1 = 0 := hhd hne
    have hPX := PrefixP_any pb top base q g cap B v s (Pu.rulesOf s) (Pu.dist s (Pu.rulesOf s) []) (Pu.lvl v s (Pu.rulesOf s) m) w1 hv hgd.1 hS hgd.2.1 hne (Pu.dist_spec s (Pu.rulesOf s) [] List.nodup_nil).1 (Nat.le_trans (names_len s (Pu.rulesOf s)) hgd.2.1) (fun r hr => mem_names (Pu.has_of hr)) (in_names hcl) hP
    rw [hfst] at hPX
    have HPX := hide hPX
    have HT : Hid (∀ n, Pu.Pfx (Pu.lvl v s (Pu.rulesOf s) m) v s (Pu.rulesOf s) (Pu.byt s 0) v.size n → Pu.Prf s v m n 0 0) := fun n h1 =>
      ⟨0, 0, hC, by rw [if_pos rfl]; exact ⟨0, 0, hW, by rw [if_pos rfl]; exact ⟨h1, rfl, rfl⟩⟩⟩
    clear hPX hC hW hgd hS hhd hfst hpr hcl hP
    go_wp2_with (go_at_call 31; refine HPX.out.mono ?_; rintro e w2 ⟨hb2, k, rfl, hk⟩; have HX := aside_of (HT.out k hk); clear hk)
    go_ret3
    exact ⟨hb1.trans (hb2.mono hb1.size), k, 0, 0, rfl, HX.out⟩

theorem numP_any (n : Int) (w : World) : Calls Tryd.prog 11 #[.int .i64 n] w fun e w' => e = .returned (.int .i64 n) ∧ w' = w := by
  go_enter Tryd.func11, Tryd.ntmps11
  go_wp2
  go_ret
  exact ⟨rfl, rfl⟩
set_option maxHeartbeats 1000000 in
theorem prefixes_walk (s v : ByteArray) (x0 x1 x2 x3 x4 : Addr) (w : World) (hs : s.size ≤ maxLen) (hv : v.size ≤ maxLen) (h : Laid w x0 x1 x2 x3 x4) (n : Apart x0 x1 x2 x3 x4) :
    Calls Tryd.prog 7 #[.string s, .string v] w fun e w' => e = .returned (.bool true) ∧ Below w.heap.size w w' := by
  obtain ⟨m, hm⟩ := Pu.exists_cnt v s (Pu.rulesOf s) v.size (Pu.parse_good s 8 0).1
  have HP := hide (SPrefix_any s v m x0 x1 x2 x3 x4 w h n hm)
  have HR := hide (fun w => rPrefix_any s v m w hs hv hm)
  clear h n hm
  go_enter Tryd.func7, Tryd.ntmps7
  go_wp2_with fail
  refine HP.out.mono ?_
  rintro e w1 ⟨hb1, k, a, p, rfl, hT⟩
  have HA := aside_of hT
  clear hT HP
  go_wp2_with fail
  refine (HR.out w1).mono ?_
  rintro e w2 ⟨⟨k2, a2, p2, rfl, hT2⟩, hb2⟩
  obtain ⟨rfl, rfl, rfl⟩ := HA.out.unique hT2
  have e1 : ((k : Int) == (k : Int)) = true := beq_self_eq_true _
  have e2 : ((a : Int) == (a : Int)) = true := beq_self_eq_true _
  have e3 : ((p : Int) == (p : Int)) = true := beq_self_eq_true _
  clear HA hT2 HR
  go_wp2_with (go_at_call 11; refine (numP_any _ _).mono ?_; rintro e w' ⟨rfl, rfl⟩)
  go_ret
  exact ⟨rfl, hb1.trans (hb2.mono hb1.size)⟩
end Go.Proofs.YthmbbiahnfpoeaaDoor
