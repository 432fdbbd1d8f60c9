import Derived.Test.YtdbjkcpjpmglkaaDoorRefBeg
import Derived.Test.YtdbjkcpjpmglkaaDoorSign
import Derived.WalkKit
import Derived.WalkSpells
import Derived.WalkSmall
import Derived.BigQuiet
import Derived.Deep.QuietTactic
import Derived.Deep.RegionWith
import Derived.Deep.LoopGhost
import Derived.Deep.RegionHeld3
import Derived.Deep.DeepCutAuto
namespace Go.Proofs.YtdbjkcpjpmglkaaDoor
open Go.RowKit

namespace Pu
/-- As the program asks. -/
theorem beg_sgn {N : Nat → Nat → Nat → Nat} {v s : ByteArray} {n : Nat} {G : Nat → Nat → Bool} {k a i : Nat} (hi : i < n) (hs : sg (byt s a) = true) :
    beg N v s n G (k + 1) a i = if nm (byt s a) = true ∧ G (byt s a) i = true then true else anyIn (fun j => decide (0 < sgn N v (byt s a) i j) && beg N v s n G k (a + 1) j) (n + 1 - i) i := by
  conv => lhs; unfold beg
  rw [if_neg (by omega)]
  by_cases hn : nm (byt s a) = true
  · rw [if_neg (by rw [nm_not_lt hn]; decide)]
    have e : ∀ j, sgn N v (byt s a) i j = N (byt s a) i j := fun j => by unfold sgn; rw [if_pos hn]
    simp only [e, hn, true_and]
  · have hl : lt (byt s a) = true := by
      simp only [sg, Bool.or_eq_true] at hs
      exact hs.resolve_left hn
    rw [if_pos hl, if_neg (fun h => hn h.1), Bool.eq_iff_iff, anyIn_iff, Bool.and_eq_true, decide_eq_true_eq]
    have e : ∀ j, sgn N v (byt s a) i j = if j = i + 1 ∧ byt v i = byt s a then 1 else 0 := fun j => by unfold sgn; rw [if_neg hn]
    constructor
    · rintro ⟨h1, h2⟩
      exact ⟨i + 1, by omega, by omega, by rw [e, if_pos ⟨rfl, h1⟩, h2]; rfl⟩
    · rintro ⟨j, h1, h2, h3⟩
      rw [e, Bool.and_eq_true, decide_eq_true_eq] at h3
      obtain ⟨h3, h4⟩ := h3
      split at h3
      · rename_i hh; obtain ⟨rfl, hh⟩ := hh; exact ⟨hh, h4⟩
      · omega
end Pu
/-- The program's beginning in memory. -/
structure OpAt (w : World) (bb gt gb pb top base q g cap B n : Nat) (v s : ByteArray) (R : List (Nat × Nat)) (L : List Nat) (N : Nat → Nat → Nat → Nat) (G : Nat → Nat → Bool) : Prop where
  blk : w.heap[bb]? = some (.cells #[.pointer (some ⟨pb, 0, none⟩), .int .i64 n, .slice (some ⟨gt, 0, none⟩) L.length L.length] 144 (0, 0))
  pr : ProgAt w pb top base q g cap B v s R L N
  gd : Grid w gt gb L.length n (fun k i => G (L.getD k 0) i)
section
variable {w w' : World} {bb gt gb pb top base q g cap B n : Nat} {v s : ByteArray} {R : List (Nat × Nat)} {L : List Nat} {N : Nat → Nat → Nat → Nat} {G : Nat → Nat → Bool}
theorem OpAt.below (h : OpAt w bb gt gb pb top base q g cap B n v s R L N G) (hb : Below w.heap.size w w') : OpAt w' bb gt gb pb top base q g cap B n v s R L N G :=
  ⟨by rw [hb.block _ (lt_heap h.blk)]; exact h.blk, h.pr.below hb, h.gd.below hb⟩
theorem OpAt.drewN (h : OpAt w bb gt gb pb top base q g cap B n v s R L N G) (m : Nat) : OpAt (w.drewN m) bb gt gb pb top base q g cap B n v s R L N G := h.below (Go.below_drewN (Below.refl _ _) m)
theorem OpAt.c0 (h : OpAt w bb gt gb pb top base q g cap B n v s R L N G) : w.cell? ⟨bb, 0, none⟩ = some (.pointer (some ⟨pb, 0, none⟩)) := by have := h.blk; simp [World.cell?, this]
theorem OpAt.c1 (h : OpAt w bb gt gb pb top base q g cap B n v s R L N G) : w.cell? ⟨bb, 1, none⟩ = some (.int .i64 n) := by have := h.blk; simp [World.cell?, this]
theorem OpAt.c2 (h : OpAt w bb gt gb pb top base q g cap B n v s R L N G) : w.cell? ⟨bb, 2, none⟩ = some (.slice (some ⟨gt, 0, none⟩) L.length L.length) := by have := h.blk; simp [World.cell?, this]
theorem OpAt.g1 (h : OpAt w bb gt gb pb top base q g cap B n v s R L N G) {c : Nat} (hc : c ∈ L) : w.cell? ⟨gt, L.idxOf c, none⟩ = some (.slice (some ⟨gb + L.idxOf c, 0, none⟩) n n) := h.gd.c1 (idx_lt hc)
theorem OpAt.g2 (h : OpAt w bb gt gb pb top base q g cap B n v s R L N G) {c i : Nat} (hc : c ∈ L) (hi : i < n) : w.cell? ⟨gb + L.idxOf c, i, none⟩ = some (.bool (G c i)) := by
  have := h.gd.c2 (idx_lt hc) hi
  simp only [getD_idxOf hc] at this
  exact this
end

set_option maxRecDepth 100000 in
set_option maxHeartbeats 2000000 in
theorem row_any (bb gt gb pb top base q g cap B n : Nat) (v s : ByteArray) (R : List (Nat × Nat)) (L : List Nat) (N : Nat → Nat → Nat → Nat) (G : Nat → Nat → Bool) (hv : v.size ≤ 24) (hn : n ≤ v.size) : ∀ (m : Nat) (t : ByteArray) (i : Nat) (w : World), t.size = m → m ≤ 3 → (∀ a, a < t.size → Pu.sg (Pu.byt t a) = true) → (∀ a, a < t.size → Pu.nm (Pu.byt t a) = true → Pu.byt t a ∈ L) → i ≤ n → OpAt w bb gt gb pb top base q g cap B n v s R L N G →
    Calls Tryd.prog 83 #[.pointer (some ⟨bb, 0, none⟩), .string t, .int .i64 i] w fun e w' => e = .returned (.bool (Pu.beg N v t n G m 0 i)) ∧ ∃ d, w' = w.drewN d
  | 0, t, i, w, ht, _, _, _, hi, h => by
    obtain rfl : t = ⟨#[]⟩ := by
      apply ByteArray.ext
      exact Array.eq_empty_of_size_eq_zero ht
    have c1 := h.c1
    by_cases e : i = n
    · subst e
      clear h ht
      go_enter Tryd.func83, Tryd.ntmps83
      go_wp2
      go_ret
      exact ⟨by simp [Pu.beg], 0, rfl⟩
    · have e' : ((i : Int) == (n : Int)) = false := by simp; omega
      clear h ht
      go_enter Tryd.func83, Tryd.ntmps83
      go_wp2
      go_ret
      exact ⟨by simp [Pu.beg, e], 0, rfl⟩
  | m + 1, t, i, w, ht, hm, hsg, hL, hi, h => by
    have ih := hide (row_any bb gt gb pb top base q g cap B n v s R L N G hv hn m)
    have h0 : 0 < t.size := by omega
    have hemp : t.toList.isEmpty = false := by
      cases hh : t.toList.isEmpty with
      | false => rfl
      | true =>
        have := (Go.toList_nil_iff_emptyBytes t).1 (List.isEmpty_iff.1 hh)
        rw [this] at ht; simp at ht
    have hs0 := hsg 0 h0
    have hL0 := hL 0 h0
    have hby := Pu.byt_eq h0
    have tsz : (t.extract 1 t.size).size = m := by simp [ByteArray.size_extract]; omega
    have tby : ∀ a, a < m → Pu.byt (t.extract 1 t.size) a = Pu.byt t (1 + a) := fun a ha => byt_sub (s := t) (a := 1) (b := t.size) (k := a) (Nat.le_refl _) (by omega)
    have htl := fun i => beg_tail (N := N) (v := v) (n := n) (G := G) (i := i) ht
    have HI : Hid (∀ (i : Nat) (w : World), i ≤ n → OpAt w bb gt gb pb top base q g cap B n v s R L N G → Calls Tryd.prog 83 #[.pointer (some ⟨bb, 0, none⟩), .string (t.extract 1 t.size), .int .i64 i] w fun e w' => e = .returned (.bool (Pu.beg N v t n G m 1 i)) ∧ ∃ d, w' = w.drewN d) := by
      intro i w h1 h2
      have := ih.out (t.extract 1 t.size) i w tsz (by omega) (fun a ha => by rw [tsz] at ha; rw [tby a ha]; exact hsg _ (by omega)) (fun a ha => by rw [tsz] at ha; rw [tby a ha]; exact hL _ (by omega)) h1 h2
      rwa [htl i] at this
    have HSG : Hid (∀ (j : Nat) (w : World), i ≤ j → j ≤ n → OpAt w bb gt gb pb top base q g cap B n v s R L N G → Calls Tryd.prog 45 #[.pointer (some ⟨pb, 0, none⟩), .int .u8 t[0].toNat, .int .i64 i, .int .i64 j] w fun e w' => e = .returned (.int .i64 ↑(Pu.sgn N v t[0].toNat i j)) ∧ ∃ d, w' = w.drewN d) := by
      intro j w h1 h2 h3
      exact sign_any pb top base q g cap B v s R L N t[0].toNat i j w hv h3.pr (UInt8.toNat_lt _) (by rw [hby]; exact hL0) h1 (by omega)
    have c1 := h.c1
    clear ih tsz tby htl hsg hL
    by_cases e : i = n
    · subst e
      have hval : Aside (Pu.beg N v t i G (m + 1) 0 i = true) := by show _ = _; simp [Pu.beg]
      clear h HI hs0 hL0 hby ht HSG
      go_enter Tryd.func83, Tryd.ntmps83
      go_wp2
      go_ret
      exact ⟨by rw [hval.out]; rfl, 0, rfl⟩
    · have hin : i < n := by omega
      have e' : ((i : Int) == (n : Int)) = false := by simp; omega
      have b1 : (0 : Int) ≤ (i : Int) := by omega
      have b2 : (i : Int) < (n : Int) := by omega
      have b3 : (0 : Int) < (t.size : Int) := by omega
      have b31 : (1 : Int) ≤ (t.size : Int) := by omega
      have hval := Pu.beg_sgn (N := N) (v := v) (G := G) (k := m) hin hs0
      rw [Nat.zero_add, ← hby] at hval
      obtain ⟨f, hf⟩ : ∃ f : Nat → Bool, f = fun j => decide (0 < Pu.sgn N v t[0].toNat i j) && Pu.beg N v t n G m 1 j := ⟨_, rfl⟩
      rw [← hf] at hval
      have HF := aside_of hf
      have gN := fun w => gName_any t[0].toNat w
      have h256 : t[0].toNat < 256 := UInt8.toNat_lt _
      clear e hf hs0 ht
      by_cases hnm : Pu.nm t[0].toNat = true
      · rw [hnm] at gN
        have GN := hide gN
        have hcL : t[0].toNat ∈ L := by rw [hby]; rw [hby] at hnm; exact hL0 hnm
        have g1 := h.g1 hcL
        have g2 := h.g2 hcL hin
        have hix := idx_lt hcL
        have c2 := h.c2
        have c0 := h.c0
        have p0 := h.pr.c0
        have NB := hide (fun d => Number_any q g cap B s R L t[0].toNat (w.drewN d) (h.pr.gr.drewN d) h256 hcL)
        have HIX : Hid (L.idxOf t[0].toNat < L.length) := hix
        generalize hixx : L.idxOf t[0].toNat = ix at *
        generalize gb + ix = gr at *
        have b4 : (0 : Int) ≤ (ix : Int) := by omega
        have b5 : (ix : Int) < (L.length : Int) := by omega
        by_cases hG : G t[0].toNat i = true
        · rw [hG] at g2
          rw [if_pos ⟨hnm, hG⟩] at hval
          have HV := aside_of hval
          clear hval hnm hG hcL gN h HI HSG hixx HIX hL0 hby
          go_enter Tryd.func83, Tryd.ntmps83
          go_wp2_with fail
          go_quiet (first | (go_at_call 59; exact Calls.quiet_of_same (GN.out _)) | (go_at_call 62; exact Calls.quiet_of_same (NB.out _)))
          go_wp2_with fail
          go_ret
          exact ⟨by rw [HV.out]; rfl, _, rfl⟩
        · have hGf : G t[0].toNat i = false := by simpa using hG
          rw [hGf] at g2
          rw [if_neg (fun hh => hG hh.2)] at hval
          have HV := aside_of hval
          clear hval hnm hG hGf hcL gN hixx HIX hL0 hby
          go_enter Tryd.func83, Tryd.ntmps83
          go_wp2_with fail
          go_quiet (first | (go_at_call 59; exact Calls.quiet_of_same (GN.out _)) | (go_at_call 62; exact Calls.quiet_of_same (NB.out _)))
          go_wp2_with fail
          clear g1 g2 c2 c0 p0 NB GN
          clear c1
          go_loopg [7] (n + 2 - i) (fun z kv V => ∃ (k : Nat), kv = .int .i64 k ∧ i ≤ k ∧ k ≤ n + 1 ∧ z = n + 2 - k ∧ (∃ d, V = w.drewN d) ∧ Pu.anyIn f (n + 1 - i) i = Pu.anyIn f (n + 1 - k) k)
          case atStart => exact ⟨i, rfl, Nat.le_refl _, by omega, rfl, ⟨_, rfl⟩, rfl⟩
          case round =>
            obtain ⟨k, rfl, hik, hkv, rfl, hwr, hac⟩ := hrel
            have hO : OpAt wr bb gt gb pb top base q g cap B n v s R L N G := by obtain ⟨d, rfl⟩ := hwr; exact h.drewN d
            have HW := hide hwr
            have HA := aside_of hac
            clear hac hwr
            have c1 := hO.c1
            by_cases hkl : k ≤ n
            · have c0 := hO.c0
              have hstep : Aside (Pu.anyIn f (n + 1 - k) k = (f k || Pu.anyIn f (n + 1 - (k + 1)) (k + 1))) := by
                show _ = _
                rw [show n + 1 - k = (n + 1 - (k + 1)) + 1 by omega]; rfl
              have hfk : Aside (f k = (decide (0 < Pu.sgn N v t[0].toNat i k) && Pu.beg N v t n G m 1 k)) := by show _ = _; rw [HF.out]
              have HSk := hide (fun d => HSG.out k (wr.drewN d) hik hkl (hO.drewN d))
              have HIk := hide (fun d => HI.out k (wr.drewN d) hkl (hO.drewN d))
              generalize Pu.sgn N v t[0].toNat i k = x at *
              generalize Pu.beg N v t n G m 1 k = bv at *
              have k1 : (0 : Int) ≤ (k : Int) := by omega
              have k3 : (k : Int) ≤ (n : Int) := by omega
              by_cases hx : x = 0
              · subst hx
                have HN : Aside (Pu.anyIn f (n + 1 - i) i = Pu.anyIn f (n + 1 - (k + 1)) (k + 1)) := by show _ = _; rw [HA.out, hstep.out, hfk.out]; simp
                clear HA hstep hfk HIk hO
                go_wp2_with fail
                go_quiet ((go_at_call 45; refine Calls.quiet_of (HSk.out _)))
                go_wp2_with fail
                go_roundg (n + 2 - (k + 1))
                case measure => omega
                case rel =>
                  obtain ⟨d0, hd0⟩ := HW.out
                  exact ⟨k + 1, by go_num, by omega, by omega, rfl, ⟨_, by rw [hd0]; exact drewN_drewN _ _ _⟩, HN.out⟩
              · have e1 : (x : Int) > 0 := by omega
                have e2 : (0 : Int) < (x : Int) := by omega
                have e3 : decide ((x : Int) > 0) = true := by simpa using e1
                have hx' : 0 < x := by omega
                cases bv with
                | false =>
                  have HN : Aside (Pu.anyIn f (n + 1 - i) i = Pu.anyIn f (n + 1 - (k + 1)) (k + 1)) := by show _ = _; rw [HA.out, hstep.out, hfk.out]; simp
                  clear HA hstep hfk hO
                  go_wp2_with fail
                  go_quiet (first | (go_at_call 45; refine Calls.quiet_of (HSk.out _)) | (go_at_call 83; refine Calls.quiet_of (HIk.out _)))
                  go_wp2_with fail
                  go_roundg (n + 2 - (k + 1))
                  case measure => omega
                  case rel =>
                    obtain ⟨d0, hd0⟩ := HW.out
                    exact ⟨k + 1, by go_num, by omega, by omega, rfl, ⟨_, by rw [hd0]; exact drewN_drewN _ _ _⟩, HN.out⟩
                | true =>
                  have HN : Aside (Pu.anyIn f (n + 1 - i) i = true) := by show _ = _; rw [HA.out, hstep.out, hfk.out]; simp [hx']
                  clear HA hstep hfk hO
                  go_wp2_with fail
                  go_quiet (first | (go_at_call 45; refine Calls.quiet_of (HSk.out _)) | (go_at_call 83; refine Calls.quiet_of (HIk.out _)))
                  go_wp2_with fail
                  go_ret
                  obtain ⟨d0, hd0⟩ := HW.out
                  exact ⟨by rw [HV.out, HN.out]; rfl, _, by rw [hd0]; exact drewN_drewN _ _ _⟩
            · obtain rfl : k = n + 1 := by omega
              have HN : Aside (Pu.anyIn f (n + 1 - i) i = false) := by show _ = _; rw [HA.out, Nat.sub_self]; rfl
              have k3 : ¬ ((n : Int) + 1 ≤ (n : Int)) := by omega
              clear HA hO
              go_wp2_with fail
              go_ret
              obtain ⟨d0, hd0⟩ := HW.out
              exact ⟨by rw [HV.out, HN.out]; rfl, _, hd0⟩
      · have hn0 : Pu.nm t[0].toNat = false := by simpa using hnm
        rw [hn0] at gN
        have GN := hide gN
        rw [if_neg (fun hh => hnm hh.1)] at hval
        have HV := aside_of hval
        clear hval hnm hn0 gN hL0 hby
        go_enter Tryd.func83, Tryd.ntmps83
        go_wp2_with fail
        go_quiet ((go_at_call 59; exact Calls.quiet_of_same (GN.out _)))
        go_wp2_with fail
        clear GN
        clear c1
        go_loopg [7] (n + 2 - i) (fun z kv V => ∃ (k : Nat), kv = .int .i64 k ∧ i ≤ k ∧ k ≤ n + 1 ∧ z = n + 2 - k ∧ (∃ d, V = w.drewN d) ∧ Pu.anyIn f (n + 1 - i) i = Pu.anyIn f (n + 1 - k) k)
        case atStart => exact ⟨i, rfl, Nat.le_refl _, by omega, rfl, ⟨_, rfl⟩, rfl⟩
        case round =>
          obtain ⟨k, rfl, hik, hkv, rfl, hwr, hac⟩ := hrel
          have hO : OpAt wr bb gt gb pb top base q g cap B n v s R L N G := by obtain ⟨d, rfl⟩ := hwr; exact h.drewN d
          have HW := hide hwr
          have HA := aside_of hac
          clear hac hwr
          have c1 := hO.c1
          by_cases hkl : k ≤ n
          · have c0 := hO.c0
            have hstep : Aside (Pu.anyIn f (n + 1 - k) k = (f k || Pu.anyIn f (n + 1 - (k + 1)) (k + 1))) := by
              show _ = _
              rw [show n + 1 - k = (n + 1 - (k + 1)) + 1 by omega]; rfl
            have hfk : Aside (f k = (decide (0 < Pu.sgn N v t[0].toNat i k) && Pu.beg N v t n G m 1 k)) := by show _ = _; rw [HF.out]
            have HSk := hide (fun d => HSG.out k (wr.drewN d) hik hkl (hO.drewN d))
            have HIk := hide (fun d => HI.out k (wr.drewN d) hkl (hO.drewN d))
            generalize Pu.sgn N v t[0].toNat i k = x at *
            generalize Pu.beg N v t n G m 1 k = bv at *
            have k1 : (0 : Int) ≤ (k : Int) := by omega
            have k3 : (k : Int) ≤ (n : Int) := by omega
            by_cases hx : x = 0
            · subst hx
              have HN : Aside (Pu.anyIn f (n + 1 - i) i = Pu.anyIn f (n + 1 - (k + 1)) (k + 1)) := by show _ = _; rw [HA.out, hstep.out, hfk.out]; simp
              clear HA hstep hfk HIk hO
              go_wp2_with fail
              go_quiet ((go_at_call 45; refine Calls.quiet_of (HSk.out _)))
              go_wp2_with fail
              go_roundg (n + 2 - (k + 1))
              case measure => omega
              case rel =>
                obtain ⟨d0, hd0⟩ := HW.out
                exact ⟨k + 1, by go_num, by omega, by omega, rfl, ⟨_, by rw [hd0]; exact drewN_drewN _ _ _⟩, HN.out⟩
            · have e1 : (x : Int) > 0 := by omega
              have e2 : (0 : Int) < (x : Int) := by omega
              have e3 : decide ((x : Int) > 0) = true := by simpa using e1
              have hx' : 0 < x := by omega
              cases bv with
              | false =>
                have HN : Aside (Pu.anyIn f (n + 1 - i) i = Pu.anyIn f (n + 1 - (k + 1)) (k + 1)) := by show _ = _; rw [HA.out, hstep.out, hfk.out]; simp
                clear HA hstep hfk hO
                go_wp2_with fail
                go_quiet (first | (go_at_call 45; refine Calls.quiet_of (HSk.out _)) | (go_at_call 83; refine Calls.quiet_of (HIk.out _)))
                go_wp2_with fail
                go_roundg (n + 2 - (k + 1))
                case measure => omega
                case rel =>
                  obtain ⟨d0, hd0⟩ := HW.out
                  exact ⟨k + 1, by go_num, by omega, by omega, rfl, ⟨_, by rw [hd0]; exact drewN_drewN _ _ _⟩, HN.out⟩
              | true =>
                have HN : Aside (Pu.anyIn f (n + 1 - i) i = true) := by show _ = _; rw [HA.out, hstep.out, hfk.out]; simp [hx']
                clear HA hstep hfk hO
                go_wp2_with fail
                go_quiet (first | (go_at_call 45; refine Calls.quiet_of (HSk.out _)) | (go_at_call 83; refine Calls.quiet_of (HIk.out _)))
                go_wp2_with fail
                go_ret
                obtain ⟨d0, hd0⟩ := HW.out
                exact ⟨by rw [HV.out, HN.out]; rfl, _, by rw [hd0]; exact drewN_drewN _ _ _⟩
          · obtain rfl : k = n + 1 := by omega
            have HN : Aside (Pu.anyIn f (n + 1 - i) i = false) := by show _ = _; rw [HA.out, Nat.sub_self]; rfl
            have k3 : ¬ ((n : Int) + 1 ≤ (n : Int)) := by omega
            clear HA hO
            go_wp2_with fail
            go_ret
            obtain ⟨d0, hd0⟩ := HW.out
            exact ⟨by rw [HV.out, HN.out]; rfl, _, hd0⟩
end Go.Proofs.YtdbjkcpjpmglkaaDoor
