import Derived.Test.YtdbjkcpjpmglkaaDoorRowB
import Derived.Test.YtdbjkcpjpmglkaaDoorGrowP
import Derived.WalkKit
import Derived.WalkSpells
import Derived.WalkSmall
import Derived.BigQuiet
import Derived.Deep.QuietTactic
import Derived.Deep.RegionWith
import Derived.Deep.LoopGhost
import Derived.Deep.RegionHeld3
import Derived.Deep.DeepCutAuto
namespace Go.Proofs.YtdbjkcpjpmglkaaDoor
open Go.RowKit

namespace Pu
/-- What opens ahead of a place does not matter behind it. -/
theorem beg_from {N : Nat → Nat → Nat → Nat} {v s : ByteArray} {n : Nat} {G G' : Nat → Nat → Bool} : ∀ k a i, i ≤ n → (∀ c j, i ≤ j → j < n → G c j = G' c j) → beg N v s n G k a i = beg N v s n G' k a i
  | 0, _, _, _, _ => rfl
  | k + 1, a, i, hi, hG => by
    simp only [beg]
    by_cases e : i = n
    · rw [if_pos e, if_pos e]
    · rw [if_neg e, if_neg e, hG _ i (Nat.le_refl _) (by omega), beg_from k (a + 1) (i + 1) (by omega) (fun c j h1 h2 => hG c j (by omega) h2)]
      have : anyIn (fun j => decide (0 < N (byt s a) i j) && beg N v s n G k (a + 1) j) (n + 1 - i) i = anyIn (fun j => decide (0 < N (byt s a) i j) && beg N v s n G' k (a + 1) j) (n + 1 - i) i :=
        anyIn_congr fun j h1 h2 => by rw [beg_from k (a + 1) j (by omega) (fun c x g1 g2 => hG c x (by omega) g2)]
      rw [this]
def cntB (G : Nat → Nat → Bool) (i : Nat) : Nat := sumTo (fun k => (G (65 + k) i).toNat) 26
theorem cntB_le26 (G : Nat → Nat → Bool) (i : Nat) : cntB G i ≤ 26 := by
  have h : ∀ (f : Nat → Nat), (∀ k, f k ≤ 1) → ∀ m, sumTo f m ≤ m := fun f hf m => by
    induction m with
    | zero => exact Nat.le_refl _
    | succ m ih => simp only [sumTo]; have := hf m; omega
  exact h _ (fun k => by cases G (65 + k) i <;> decide) 26
theorem cntB_le {G H : Nat → Nat → Bool} {i : Nat} (h : ∀ c i, G c i = true → H c i = true) : cntB G i ≤ cntB H i :=
  sumTo_le _ fun k _ => by
    have := h (65 + k) i
    cases hg : G (65 + k) i <;> cases hh : H (65 + k) i <;> simp_all
theorem cntB_lt {G H : Nat → Nat → Bool} {i k : Nat} (h : ∀ c i, G c i = true → H c i = true) (hk : k < 26) (hg : G (65 + k) i = false) (hh : H (65 + k) i = true) : cntB G i < cntB H i := by
  have hle : ∀ k, (G (65 + k) i).toNat ≤ (H (65 + k) i).toNat := fun k => by
    have := h (65 + k) i
    cases hg : G (65 + k) i <;> cases hh : H (65 + k) i <;> simp_all
  exact sumTo_lt _ (fun k _ => hle k) ⟨k, hk, by rw [hg, hh]; decide⟩
/-- One widening at place fr, when r rules are gone through. -/
structure Wid (N : Nat → Nat → Nat → Nat) (v s : ByteArray) (R : List (Nat × Nat)) (n : Nat) (G0 G : Nat → Nat → Bool) (b : Bool) (fr r : Nat) : Prop where
  under : Under N v s R n G
  no : b = false → G = G0 ∧ ∀ r' (h : r' < R.length), r' < r → beg N v s n G (R[r'].2 - (R[r'].1 + 2)) (R[r'].1 + 2) fr = true → G (byt s R[r'].1) fr = true
  yes : b = true → cntB G0 fr < cntB G fr
  le : ∀ c i, G0 c i = true → G c i = true
  other : ∀ c i, i ≠ fr → G c i = G0 c i
section
variable {N : Nat → Nat → Nat → Nat} {v s : ByteArray} {R : List (Nat × Nat)} {n : Nat} {G0 G : Nat → Nat → Bool} {b : Bool} {r fr : Nat}
theorem Wid.start (h : Under N v s R n G) : Wid N v s R n G G false fr 0 := ⟨h, fun _ => ⟨rfl, fun _ _ h => by omega⟩, fun h => (by cases h), fun _ _ h => h, fun _ _ _ => rfl⟩
theorem Wid.skip (h : Wid N v s R n G0 G b fr r) (hr : r < R.length) (hs : beg N v s n G (R[r].2 - (R[r].1 + 2)) (R[r].1 + 2) fr = true → G (byt s R[r].1) fr = true) : Wid N v s R n G0 G b fr (r + 1) :=
  ⟨h.under, fun hb => ⟨(h.no hb).1, fun r' hl hor hbg => by
    by_cases e : r' = r
    · subst e; exact hs hbg
    · exact (h.no hb).2 r' hl (by omega) hbg⟩, h.yes, h.le, h.other⟩
theorem Wid.set (h : Wid N v s R n G0 G b fr r) (hG : Good s R) (hr : r < R.length) (hb : beg N v s n G (R[r].2 - (R[r].1 + 2)) (R[r].1 + 2) fr = true) (hg : G (byt s R[r].1) fr = false) : Wid N v s R n G0 (addG G (byt s R[r].1) fr) true fr (r + 1) := by
  have hle : ∀ c j, G c j = true → addG G (byt s R[r].1) fr c j = true := fun c j h => by unfold addG; split <;> simp_all
  obtain ⟨h65, h90, _, _⟩ := hG R[r] (List.getElem_mem hr)
  refine ⟨h.under.add (List.getElem_mem hr) hb, fun h => (by cases h), fun _ => ?_, fun c j hc => hle c j (h.le c j hc), fun c i hi => ?_⟩
  · have a := cntB_le (i := fr) h.le
    have b := cntB_lt (k := byt s R[r].1 - 65) hle (by omega) (by rw [show 65 + (byt s R[r].1 - 65) = byt s R[r].1 by omega]; exact hg) (by rw [show 65 + (byt s R[r].1 - 65) = byt s R[r].1 by omega]; simp [addG])
    omega
  · unfold addG; rw [if_neg (fun e => hi e.2)]; exact h.other c i hi
end
/-- All that opens at fr and behind it is known. -/
structure Wide (N : Nat → Nat → Nat → Nat) (v s : ByteArray) (R : List (Nat × Nat)) (n : Nat) (G : Nat → Nat → Bool) (fr : Nat) : Prop where
  under : Under N v s R n G
  from_ : ∀ c i, fr ≤ i → i < n → Opens N v s R n G c i → G c i = true
section
variable {N : Nat → Nat → Nat → Nat} {v s : ByteArray} {R : List (Nat × Nat)} {n : Nat} {G G' : Nat → Nat → Bool} {b : Bool} {fr : Nat}
theorem Wide.start : Wide N v s R n (fun _ _ => false) n := ⟨Under.start, fun _ i h1 h2 => by omega⟩
theorem Wide.again (h : Wide N v s R n G (fr + 1)) (hw : Wid N v s R n G G' b fr R.length) : Wide N v s R n G' (fr + 1) :=
  ⟨hw.under, fun c i h1 h2 ⟨r, hr, e, hb⟩ => hw.le c i (h.from_ c i h1 h2 ⟨r, hr, e, by rw [← hb]; exact beg_from _ _ _ (by omega) (fun c j g1 g2 => (hw.other c j (by omega)).symm)⟩)⟩
theorem Wide.next (h : Wide N v s R n G (fr + 1)) (hw : Wid N v s R n G G' false fr R.length) : Wide N v s R n G fr := by
  obtain ⟨e, hno⟩ := hw.no rfl
  subst e
  refine ⟨h.under, fun c i h1 h2 ho => ?_⟩
  by_cases e : i = fr
  · subst e
    obtain ⟨r, hr, e, hb⟩ := ho
    obtain ⟨k, hk, rfl⟩ := List.mem_iff_getElem.1 hr
    subst e
    exact hno k hk hk hb
  · exact h.from_ c i (by omega) h2 ho
theorem Wide.lfp (h : Wide N v s R n G 0) : Lfp N v s R n G := ⟨fun c i hi ho => h.from_ c i (Nat.zero_le _) hi ho, h.under⟩
end
end Pu

/-- The beginning that is being looked at, behind a world with the chart. -/
structure BegP (w V : World) (pb n : Nat) (L : List Nat) (G : Nat → Nat → Bool) : Prop where
  bel : Below w.heap.size w V
  blk : V.heap[w.heap.size + 1]? = some (.cells #[.pointer (some ⟨pb, 0, none⟩), .int .i64 n, .slice (some ⟨w.heap.size, 0, none⟩) L.length L.length] 144 (0, 0))
  gd : Grid V w.heap.size (w.heap.size + 2) L.length n (fun k i => G (L.getD k 0) i)
section
variable {w V V' : World} {pb top base q g cap B n : Nat} {v s : ByteArray} {R : List (Nat × Nat)} {L : List Nat} {N : Nat → Nat → Nat → Nat} {G : Nat → Nat → Bool}
theorem BegP.at (h : BegP w V pb n L G) (hP : ProgAt w pb top base q g cap B v s R L N) : OpAt V (w.heap.size + 1) w.heap.size (w.heap.size + 2) pb top base q g cap B n v s R L N G := ⟨h.blk, hP.below h.bel, h.gd⟩
theorem BegP.below (h : BegP w V pb n L G) (hb : Below V.heap.size V V') : BegP w V' pb n L G := ⟨h.bel.trans (hb.mono h.bel.size), by rw [hb.block _ (lt_heap h.blk)]; exact h.blk, h.gd.below hb⟩
theorem BegP.drewN (h : BegP w V pb n L G) (m : Nat) : BegP w (V.drewN m) pb n L G := h.below (Go.below_drewN (Below.refl _ _) m)
theorem BegP.alloc (h : BegP w V pb n L G) (o : Obj) : BegP w (V.alloc o) pb n L G := h.below ((Below.refl _ _).alloc (Nat.le_refl _) _)
theorem BegP.set (h : BegP w V pb n L G) (hnd : L.Nodup) {c i : Nat} (hc : c ∈ L) : BegP w (V.setCell ⟨w.heap.size + 2 + L.idxOf c, i, none⟩ (.bool true)) pb n L (Pu.addG G c i) := by
  refine ⟨h.bel.setCell (by show w.heap.size ≤ w.heap.size + 2 + L.idxOf c; omega) _, ?_, (h.gd.set (i := i) (idx_lt hc)).congr fun k j hk _ => ?_⟩
  · rw [Below.heap_setCell _ _ _ _ (by show w.heap.size + 1 ≠ w.heap.size + 2 + L.idxOf c; omega)]; exact h.blk
  · unfold Pu.addG
    by_cases e : k = L.idxOf c
    · subst e
      rw [getD_idxOf hc]
      by_cases ej : j = i
      · rw [if_pos ⟨rfl, ej⟩, if_pos ⟨rfl, ej⟩]
      · rw [if_neg (fun hh => ej hh.2), if_neg (fun hh => ej hh.2)]
        show G (L.getD (L.idxOf c) 0) j = G c j
        rw [getD_idxOf hc]
    · rw [if_neg (fun hh => e hh.1), if_neg (fun hh => e (by rw [← hh.1, idxOf_getD hnd hk]))]
end

set_option maxRecDepth 100000 in
set_option maxHeartbeats 2000000 in
theorem widen_any (pb top base q g cap B n fr : Nat) (v s : ByteArray) (R : List (Nat × Nat)) (L : List Nat) (N : Nat → Nat → Nat → Nat) (G : Nat → Nat → Bool) (w V : World) (hv : v.size ≤ 24) (hn : n ≤ v.size) (hfr : fr < n) (hG : Pu.Good s R) (hS : Pu.Signed s R) (hn8 : R.length ≤ 8) (hnd : L.Nodup) (hLR : ∀ r ∈ R, Pu.byt s r.1 ∈ L)
    (hLC : ∀ r ∈ R, ∀ a, r.1 + 2 ≤ a → a < r.2 → Pu.nm (Pu.byt s a) = true → Pu.byt s a ∈ L) (hP : ProgAt w pb top base q g cap B v s R L N) (hB : BegP w V pb n L G) (hU : Pu.Under N v s R n G) :
    Calls Tryd.prog 75 #[.pointer (some ⟨w.heap.size + 1, 0, none⟩), .int .i64 fr] V fun e w' => ∃ b G', e = .returned (.bool b) ∧ BegP w w' pb n L G' ∧ Pu.Wid N v s R n G G' b fr R.length := by
  have hO := hB.at hP
  have c0 := hO.c0
  have p0 := hO.pr.c0
  have g0 := hO.pr.gr.c0
  have HW0 := hide (Pu.Wid.start (fr := fr) hU)
  have HP := hide (fun V (h : Below w.heap.size w V) => hP.below h)
  have HAT := hide (fun (V : World) (G : Nat → Nat → Bool) (h : BegP w V pb n L G) => h.at hP)
  have HG := hide hG
  have HS := hide hS
  have HLC := hide hLC
  have HRW : Hid (∀ (G : Nat → Nat → Bool) (V : World) (r : Nat) (hr : r < R.length), BegP w V pb n L G → Calls Tryd.prog 83 #[.pointer (some ⟨w.heap.size + 1, 0, none⟩), .string (sub s (R[r].1 + 2) R[r].2), .int .i64 fr] V fun e w' => e = .returned (.bool (Pu.beg N v s n G (R[r].2 - (R[r].1 + 2)) (R[r].1 + 2) fr)) ∧ ∃ d, w' = V.drewN d) := by
    intro G V r hr hV
    obtain ⟨h65, h90, hr1, hr2⟩ := hG R[r] (List.getElem_mem hr)
    obtain ⟨hr5, hsg⟩ := hS R[r] (List.getElem_mem hr)
    have hsz := size_sub (s := s) (a := R[r].1 + 2) hr2
    have := row_any (w.heap.size + 1) w.heap.size (w.heap.size + 2) pb top base q g cap B n v s R L N G hv hn (R[r].2 - (R[r].1 + 2)) (sub s (R[r].1 + 2) R[r].2) fr V hsz (by omega) (fun a ha => by rw [hsz] at ha; rw [byt_sub hr2 ha]; exact hsg _ (by omega) (by omega)) (fun a ha => by rw [hsz] at ha; rw [byt_sub hr2 ha]; exact hLC _ (List.getElem_mem hr) _ (by omega) (by omega)) (by omega) (hV.at hP)
    rw [beg_sub hr2 _ _ _ (by omega)] at this
    exact this
  clear hG hS hLC hO hU
  go_enter Tryd.func75, Tryd.ntmps75
  go_wp2_with fail
  clear c0 p0 g0
  go_loopg [5, 20] (R.length + 1) (fun z bv rv V => ∃ (G' : Nat → Nat → Bool) (b : Bool) (r : Nat), bv = .bool b ∧ rv = .int .i64 r ∧ r ≤ R.length ∧ z = R.length + 1 - r ∧ BegP w V pb n L G' ∧ Pu.Wid N v s R n G G' b fr r)
  case atStart => exact ⟨G, false, 0, rfl, rfl, Nat.zero_le _, rfl, hB, HW0.out⟩
  case round =>
    clear hB HW0
    obtain ⟨G', b, r, rfl, rfl, hr, rfl, hB, hWi⟩ := hrel
    by_cases hrl : r < R.length
    · have hO := HAT.out _ _ hB
      obtain ⟨f0, f1, f2⟩ := hO.pr.gr.rules r hrl
      have hmem : R[r] ∈ R := List.getElem_mem hrl
      have hcL := hLR R[r] hmem
      have h256 := Pu.byt_lt s R[r].1
      have b1 : (0 : Int) ≤ (r : Int) := by omega
      have b2 : (r : Int) < (R.length : Int) := by omega
      have hB1 := hB.alloc (.cells #[.int .u8 ↑(Pu.byt s R[r].1), .string (sub s (R[r].1 + 2) R[r].2), .int .i64 R[r].1] 115)
      have HRr := hide (fun V h => HRW.out G' V r hrl h)
      have hskip := hWi.skip hrl
      have hset := hWi.set HG.out hrl
      generalize Pu.byt s R[r].1 = c at *
      generalize sub s (R[r].1 + 2) R[r].2 = t at *
      generalize Pu.beg N v s n G' (R[r].2 - (R[r].1 + 2)) (R[r].1 + 2) fr = bv at *
      generalize R[r].1 = p3 at *
      have hrb : w.heap.size + 2 + L.idxOf c < wr.heap.size := by
        obtain ⟨cs, hh, _⟩ := hB.gd.row (L.idxOf c) (idx_lt hcL)
        exact lt_heap hh
      go_wp2_with fail
      have k0 : (wr.alloc (.cells #[.int .u8 c, .string t, .int .i64 p3] 115)).cell? ⟨wr.heap.size, 0, none⟩ = some (.int .u8 c) := by simp
      have k1 : (wr.alloc (.cells #[.int .u8 c, .string t, .int .i64 p3] 115)).cell? ⟨wr.heap.size, 1, none⟩ = some (.string t) := by simp
      clear hB hO f0 f1 f2
      generalize hV1 : wr.alloc (.cells #[.int .u8 c, .string t, .int .i64 p3] 115) = V1 at *
      clear hV1
      generalize wr.heap.size = rb at *
      clear wr
      have hO1 := HAT.out _ _ hB1
      have c0 := hO1.c0
      have c2 := hO1.c2
      have p0 := hO1.pr.c0
      have NB := hide (fun d => Number_any q g cap B s R L c (V1.drewN d) (hO1.pr.gr.drewN d) h256 hcL)
      have g1 := hO1.g1 hcL
      have g2 := hO1.g2 hcL hfr
      have g3 := hO1.gd.frozen (idx_lt hcL) fr
      have hix := idx_lt hcL
      have HSET := hide (fun d => (hB1.drewN d).set (i := fr) hnd hcL)
      have HRQ := hide (fun d => HRr.out _ (hB1.drewN d))
      have HBD := hide (fun d => hB1.drewN d)
      clear hO1 hB1 HRr
      generalize L.idxOf c = ix at *
      generalize hgr : w.heap.size + 2 + ix = gr at *
      generalize hgo : G' c fr = go at *
      have e1 : ¬ gr = rb := by omega
      have e2 : ¬ rb = gr := by omega
      have e3 : ¬ gr = w.heap.size := by omega
      have e4 : ¬ w.heap.size = gr := by omega
      have e5 : ¬ gr = w.heap.size + 1 := by omega
      have e6 : ¬ w.heap.size + 1 = gr := by omega
      have b4 : (0 : Int) ≤ (ix : Int) := by omega
      have b5 : (ix : Int) < (L.length : Int) := by omega
      have b6 : (0 : Int) ≤ (fr : Int) := by omega
      have b7 : (fr : Int) < (n : Int) := by omega
      go_quiet ((go_at_call 62; refine Calls.quiet_of_same (NB.out _)))
      cases go with
      | true =>
        have hX := hskip (fun _ => rfl)
        clear hskip hset
        go_wp2_with fail
        go_roundg (R.length + 1 - (r + 1))
        case measure => omega
        case rel => exact ⟨G', b, r + 1, rfl, by go_num, by omega, rfl, HBD.out _, hX⟩
      | false =>
        cases bv with
        | false =>
          have hX := hskip (fun h => by cases h)
          clear hskip hset
          go_wp2_with (go_at_call 83; refine (HRQ.out _).mono ?_; rintro e w2 ⟨rfl, q2, rfl⟩)
          go_roundg (R.length + 1 - (r + 1))
          case measure => omega
          case rel => exact ⟨G', b, r + 1, rfl, by go_num, by omega, rfl, HBD.out _, hX⟩
        | true =>
          have hX := hset rfl rfl
          clear hskip hset
          go_wp2_with (go_at_call 83; refine (HRQ.out _).mono ?_; rintro e w2 ⟨rfl, q2, rfl⟩)
          go_roundg (R.length + 1 - (r + 1))
          case measure => omega
          case rel => exact ⟨Pu.addG G' c fr, true, r + 1, rfl, by go_num, by omega, rfl, HSET.out _, hX⟩
    · obtain rfl : r = R.length := by omega
      go_wp2_with fail
      go_ret
      exact ⟨b, G', rfl, hB, hWi⟩
end Go.Proofs.YtdbjkcpjpmglkaaDoor
