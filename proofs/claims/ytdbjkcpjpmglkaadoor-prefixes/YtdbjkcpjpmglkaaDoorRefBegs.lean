import Derived.Test.YtdbjkcpjpmglkaaDoorRefBeg
import Derived.Test.YtdbjkcpjpmglkaaDoorRefTrees
import Derived.WalkKit
import Derived.WalkSpells
import Derived.WalkSmall
import Derived.BigQuiet
import Derived.Deep.QuietTactic
import Derived.Deep.RegionWith
import Derived.Deep.LoopGhost
import Derived.Deep.RegionHeld3
import Derived.Deep.DeepCutAuto
namespace Go.Proofs.YtdbjkcpjpmglkaaDoor
open Go.RowKit

namespace Pu
def totB (G : Nat → Nat → Bool) (n : Nat) : Nat := sumTo (fun k => sumTo (fun i => (G (65 + k) i).toNat) (n + 1)) 26
theorem totB_le {G H : Nat → Nat → Bool} {n : Nat} (h : ∀ c i, G c i = true → H c i = true) : totB G n ≤ totB H n :=
  sumTo_le _ fun k _ => sumTo_le _ fun i _ => by
    have := h (65 + k) i
    cases hg : G (65 + k) i <;> cases hh : H (65 + k) i <;> simp_all
theorem totB_lt {G H : Nat → Nat → Bool} {n k i : Nat} (h : ∀ c i, G c i = true → H c i = true) (hk : k < 26) (hi : i ≤ n) (hg : G (65 + k) i = false) (hh : H (65 + k) i = true) : totB G n < totB H n := by
  have hle : ∀ k i, (G (65 + k) i).toNat ≤ (H (65 + k) i).toNat := fun k i => by
    have := h (65 + k) i
    cases hg : G (65 + k) i <;> cases hh : H (65 + k) i <;> simp_all
  exact sumTo_lt _ (fun k _ => sumTo_le _ fun i _ => hle k i) ⟨k, hk, sumTo_lt _ (fun i _ => hle k i) ⟨i, by omega, by rw [hg, hh]; decide⟩⟩
/-- One sweep of what opens, when it stands at rule r and place i. -/
structure Swp (N : Nat → Nat → Nat → Nat) (v s : ByteArray) (R : List (Nat × Nat)) (n : Nat) (G0 G : Nat → Nat → Bool) (b : Bool) (r i : Nat) : Prop where
  under : Under N v s R n G
  no : b = false → G = G0 ∧ ∀ r' i' (h : r' < R.length), (r' < r ∨ (r' = r ∧ i' < i)) → i' ≤ n → beg N v s n G (R[r'].2 - (R[r'].1 + 2)) (R[r'].1 + 2) i' = true → G (byt s R[r'].1) i' = true
  yes : b = true → totB G0 n < totB G n
  le : ∀ c i, G0 c i = true → G c i = true
section
variable {N : Nat → Nat → Nat → Nat} {v s : ByteArray} {R : List (Nat × Nat)} {n : Nat} {G0 G : Nat → Nat → Bool} {b : Bool} {r i : Nat}
theorem Swp.start (h : Under N v s R n G) : Swp N v s R n G G false 0 0 := ⟨h, fun _ => ⟨rfl, fun _ _ _ h => by omega⟩, fun h => (by cases h), fun _ _ h => h⟩
theorem Swp.skip (h : Swp N v s R n G0 G b r i) (hr : r < R.length) (hs : beg N v s n G (R[r].2 - (R[r].1 + 2)) (R[r].1 + 2) i = true → G (byt s R[r].1) i = true) : Swp N v s R n G0 G b r (i + 1) :=
  ⟨h.under, fun hb => ⟨(h.no hb).1, fun r' i' hl hor hi hbg => by
    by_cases e : r' = r ∧ i' = i
    · obtain ⟨rfl, rfl⟩ := e; exact hs hbg
    · exact (h.no hb).2 r' i' hl (by omega) hi hbg⟩, h.yes, h.le⟩
theorem Swp.set (h : Swp N v s R n G0 G b r i) (hG : Good s R) (hr : r < R.length) (hi : i ≤ n) (hb : beg N v s n G (R[r].2 - (R[r].1 + 2)) (R[r].1 + 2) i = true) (hg : G (byt s R[r].1) i = false) : Swp N v s R n G0 (addG G (byt s R[r].1) i) true r (i + 1) := by
  have hle : ∀ c j, G c j = true → addG G (byt s R[r].1) i c j = true := fun c j h => by unfold addG; split <;> simp_all
  obtain ⟨h65, h90, _, _⟩ := hG R[r] (List.getElem_mem hr)
  refine ⟨h.under.add (List.getElem_mem hr) hb, fun h => (by cases h), fun _ => ?_, fun c j hc => hle c j (h.le c j hc)⟩
  have a := totB_le (n := n) h.le
  have b := totB_lt (k := byt s R[r].1 - 65) (n := n) hle (by omega) hi (by rw [show 65 + (byt s R[r].1 - 65) = byt s R[r].1 by omega]; exact hg) (by rw [show 65 + (byt s R[r].1 - 65) = byt s R[r].1 by omega]; simp [addG])
  omega
theorem Swp.row (h : Swp N v s R n G0 G b r (n + 1)) : Swp N v s R n G0 G b (r + 1) 0 :=
  ⟨h.under, fun hb => ⟨(h.no hb).1, fun r' i' hl hor hi hbg => (h.no hb).2 r' i' hl (by omega) hi hbg⟩, h.yes, h.le⟩
theorem Swp.closed (h : Swp N v s R n G0 G false R.length 0) : Lfp N v s R n G :=
  ⟨fun c i hi ⟨r, hr, e, hb⟩ => by
    obtain ⟨k, hk, rfl⟩ := List.mem_iff_getElem.1 hr
    subst e
    exact (h.no rfl).2 k i hk (by omega) (by omega) hb, h.under⟩
end
end Pu

/-- A chart, its rules, and what opens. -/
structure BegM (w V : World) (cb top base gt g cap : Nat) (v s : ByteArray) (R : List (Nat × Nat)) (N : Nat → Nat → Nat → Nat) (G : Nat → Nat → Bool) : Prop where
  ch : ChartAt V cb top base v.size (.slice (some ⟨g, 0, none⟩) R.length cap) v N
  gd : Grid V gt (gt + 1) 26 (v.size + 1) (fun k i => G (65 + k) i)
  ra : RulesAt V g s R
  bel : Below w.heap.size w V
  far : cb < gt ∧ top < gt ∧ base + 26 * (v.size + 2) ≤ gt ∧ g < gt ∧ w.heap.size ≤ gt ∧ g < V.heap.size
section
variable {w V V' : World} {cb top base gt g cap : Nat} {v s : ByteArray} {R : List (Nat × Nat)} {N : Nat → Nat → Nat → Nat} {G : Nat → Nat → Bool}
theorem BegM.below (h : BegM w V cb top base gt g cap v s R N G) (hb : Below V.heap.size V V') : BegM w V' cb top base gt g cap v s R N G := by
  have f := h.far
  have := hb.size
  exact ⟨h.ch.below hb, h.gd.below hb, h.ra.below hb f.2.2.2.2.2, h.bel.trans (hb.mono h.bel.size), by omega⟩
theorem BegM.drewN (h : BegM w V cb top base gt g cap v s R N G) (m : Nat) : BegM w (V.drewN m) cb top base gt g cap v s R N G := h.below (Go.below_drewN (Below.refl _ _) m)
theorem BegM.set (h : BegM w V cb top base gt g cap v s R N G) {c i : Nat} (h1 : 65 ≤ c) (h2 : c ≤ 90) : BegM w (V.setCell ⟨gt + 1 + (c - 65), i, none⟩ (.bool true)) cb top base gt g cap v s R N (Pu.addG G c i) := by
  have f := h.far
  have ho : ∀ b, b ≤ gt → (V.setCell ⟨gt + 1 + (c - 65), i, none⟩ (.bool true)).heap[b]? = V.heap[b]? := fun b hb => Below.heap_setCell _ _ _ _ (by show b ≠ gt + 1 + (c - 65); omega)
  refine ⟨⟨by rw [ho _ (by omega)]; exact h.ch.blk, h.ch.cube.kept fun b hb => ho b (by omega)⟩, ?_, h.ra.grown (grown_set V (gt + 1 + (c - 65)) i _) (by simp; omega), h.bel.setCell (by show w.heap.size ≤ gt + 1 + (c - 65); omega) _, by simpa using f⟩
  refine (h.gd.set (k := c - 65) (i := i) (by omega)).congr fun k i' hk _ => ?_
  unfold Pu.addG
  by_cases e : k = c - 65
  · subst e
    simp only [show 65 + (c - 65) = c by omega, true_and]
  · rw [if_neg (fun h => e h.1), if_neg (fun h => e (by omega))]
end

set_option maxRecDepth 100000 in
set_option maxHeartbeats 2000000 in
theorem Begins_any (s v : ByteArray) (R : List (Nat × Nat)) (g cap m : Nat) (w : World) (hRA : RulesAt w g s R) (hg : g < w.heap.size) (hG : Pu.Good s R) (hS : Pu.Signed s R) (hn : R.length ≤ 8) (hR : 0 < R.length) (hv : v.size ≤ 24) (hm : Pu.Cnt v s R v.size (Pu.lvl v s R m)) :
    Calls Tryd.prog 33 #[.slice (some ⟨g, 0, none⟩) R.length cap, .string v] w fun e w' => Below w.heap.size w w' ∧ ∃ b, e = .returned (.bool b) ∧ Pu.Bg (Pu.lvl v s R m) v s R (Pu.byt s (R[0]'hR).1) v.size b := by
  have HCO := hide (Count_any s v R g cap w hRA hg hG hS hn hv)
  have HRA := hide hRA
  have HG := hide hG
  have HS := hide hS
  have HM := hide hm
  clear hRA hG hS hm
  have m108 := make108 26 (by omega)
  have m108' : ∀ w, (Instr.makeSlice 108 (.int .i64 26) (.int .i64 26)).run Tryd.prog w = .ok (.slice (some ⟨w.heap.size, 0, none⟩) 26 26) (w.alloc (.cells (zNil 26) 56)) := m108
  have m56 : ∀ w, (Instr.makeSlice 56 (.int .i64 ((v.size : Int) + 1)) (.int .i64 ((v.size : Int) + 1))).run Tryd.prog w = .ok (.slice (some ⟨w.heap.size, 0, none⟩) (v.size + 1) (v.size + 1)) (w.alloc (.cells (zBools (v.size + 1)) 4)) := fun w => by
    have := make56 (v.size + 1) (by omega) w
    rwa [show ((v.size + 1 : Nat) : Int) = (v.size : Int) + 1 by omega] at this
  clear m108
  go_enter Tryd.func33, Tryd.ntmps33
  go_wp2_with (go_at_call 29; refine HCO.out.mono ?_; rintro e w1 ⟨rfl, hb1, m', top, base, hch, hcn⟩)
  have hch2 := chart_of_cnt hch hcn HM.out
  have HRA1 : Hid (RulesAt w1 g s R) := HRA.out.below hb1 hg
  have hg1 : g < w1.heap.size := Nat.lt_of_lt_of_le hg hb1.size
  have hH0 : HalfG w1 (w1.alloc (.cells (zNil 26) 56)) w1.heap.size (w1.heap.size + 1) 26 (v.size + 1) 0 := HalfG.start _ ((Below.refl _ _).alloc (Nat.le_refl _) _) (heap_alloc_new w1 _) (Nat.le_refl _) (by omega) (by simp)
  clear hch hcn HCO m108'
  go_loopg [7] 27 (fun n kv V => ∃ k : Nat, kv = .int .i64 k ∧ k ≤ 26 ∧ n = 27 - k ∧ HalfG w1 V w1.heap.size (w1.heap.size + 1) 26 (v.size + 1) k)
  case atStart => exact ⟨0, rfl, Nat.zero_le _, rfl, hH0⟩
  case round =>
    clear hH0
    obtain ⟨k, rfl, hk, rfl, hH⟩ := hrel
    by_cases hkl : k < 26
    · have hT := hH.addRow hkl
      obtain ⟨cs, ht, hz, hc⟩ := hH.top
      have htl := lt_heap ht
      have hct : ∃ x, wr.cell? ⟨w1.heap.size, k, none⟩ = some x := by
        simp only [World.cell?, ht]
        exact ⟨cs[k], by simp⟩
      obtain ⟨x0, hx0⟩ := hct
      have hf0 : wr.frozen? ⟨w1.heap.size, k, none⟩ = false := by simp [World.frozen?, ht]
      have n1 : ¬ wr.heap.size = w1.heap.size := by omega
      have n2 : ¬ w1.heap.size = wr.heap.size := by omega
      have b1 : (0 : Int) ≤ (k : Int) := by omega
      have b2 : (k : Int) < 26 := by omega
      clear hH ht hz hc
      go_wp2_with fail
      go_roundg (27 - (k + 1))
      case measure => omega
      case rel => exact ⟨k + 1, by go_num, by omega, rfl, hT⟩
    · obtain rfl : k = 26 := by omega
      have hM0 : BegM w wr w.heap.size top base w1.heap.size g cap v s R (Pu.lvl v s R m) (fun _ _ => false) := by
        have hl := hch2.lts
        exact ⟨hch2.below hH.bel, hH.done, HRA1.out.below hH.bel hg1, hb1.trans (hH.bel.mono hb1.size), hl.1, hl.2.1, hl.2.2, hg1, hb1.size, Nat.lt_of_lt_of_le hg1 hH.bel.size⟩
      clear hH m56
      go_wp2_with fail
      have HUS : Hid (Pu.Under (Pu.lvl v s R m) v s R v.size (fun _ _ => false)) := Pu.Under.start
      have HNC : Hid (∀ (G : Nat → Nat → Bool) (V : World) (r i : Nat) (hr : r < R.length), i ≤ v.size → BegM w V w.heap.size top base w1.heap.size g cap v s R (Pu.lvl v s R m) G → Calls Tryd.prog 53 #[.pointer (some ⟨w.heap.size, 0, none⟩), .string (sub s (R[r].1 + 2) R[r].2), .int .i64 i, .slice (some ⟨w1.heap.size, 0, none⟩) 26 26] V fun e w' => e = .returned (.bool (Pu.beg (Pu.lvl v s R m) v s v.size G (R[r].2 - (R[r].1 + 2)) (R[r].1 + 2) i)) ∧ ∃ q, w' = V.drewN q) := by
        intro G V r i hr hi hM
        obtain ⟨h65, h90, hr1, hr2⟩ := HG.out R[r] (List.getElem_mem hr)
        obtain ⟨hr5, hsg⟩ := HS.out R[r] (List.getElem_mem hr)
        have hsz := size_sub (s := s) (a := R[r].1 + 2) hr2
        have := begins_any w.heap.size top base w1.heap.size (w1.heap.size + 1) (.slice (some ⟨g, 0, none⟩) R.length cap) v (Pu.lvl v s R m) G hv (R[r].2 - (R[r].1 + 2)) (sub s (R[r].1 + 2) R[r].2) i V hsz (by omega) (fun a ha => by rw [hsz] at ha; rw [byt_sub hr2 ha]; exact hsg _ (by omega) (by omega)) hi hM.ch hM.gd
        rw [beg_sub hr2 _ _ _ (by omega)] at this
        exact this
      clear hch2 HRA1 hb1 HRA HM
      generalize w1.heap.size = gt at *
      obtain ⟨N, hN⟩ : ∃ N, N = Pu.lvl v s R m := ⟨_, rfl⟩
      rw [← hN] at hM0 HUS HNC
      have HPN := aside_of hN
      clear hN
      obtain ⟨TT, hTT⟩ : ∃ TT, TT = Pu.totB (fun _ _ => true) v.size := ⟨_, rfl⟩
      have HTT : Hid (∀ G : Nat → Nat → Bool, Pu.totB G v.size ≤ TT) := fun G => by rw [hTT]; exact Pu.totB_le (fun _ _ _ => rfl)
      clear hTT
      go_loopg [8] (2 * (TT - Pu.totB (fun _ _ => false) v.size) + 1) (fun q av V => ∃ (G : Nat → Nat → Bool) (b : Bool), av = .bool b ∧ q = 2 * (TT - Pu.totB G v.size) + b.toNat ∧ BegM w V w.heap.size top base gt g cap v s R N G ∧ Pu.Under N v s R v.size G ∧ (b = false → Pu.Lfp N v s R v.size G))
      case atStart => exact ⟨fun _ _ => false, true, rfl, rfl, hM0, HUS.out, fun h => by cases h⟩
      case round =>
        clear hM0 HUS
        obtain ⟨G, b, rfl, rfl, hM, hU, hfix⟩ := hrel
        cases b with
        | false =>
          have HL := aside_of (hfix rfl)
          obtain ⟨f0, _, _⟩ := hM.ra 0 hR
          obtain ⟨h65, h90, _, _⟩ := HG.out (R[0]'hR) (List.getElem_mem hR)
          have hk0 : Pu.byt s (R[0]'hR).1 - 65 < 26 := by omega
          have g1 := hM.gd.c1 hk0
          have g2 := hM.gd.c2 hk0 (show 0 < v.size + 1 by omega)
          simp only [show 65 + (Pu.byt s (R[0]'hR).1 - 65) = Pu.byt s (R[0]'hR).1 by omega] at g2
          have g1' : wr.cell? ⟨gt, ((Pu.byt s (R[0]'hR).1 : Int) - 65).toNat, none⟩ = some (.slice (some ⟨gt + 1 + (Pu.byt s (R[0]'hR).1 - 65), 0, none⟩) (v.size + 1) (v.size + 1)) := by rw [show ((Pu.byt s (R[0]'hR).1 : Int) - 65).toNat = Pu.byt s (R[0]'hR).1 - 65 by omega]; exact g1
          have hbl := hM.bel
          have b0 : (0 : Int) < (R.length : Int) := by omega
          clear hM hU hfix HNC HG HS
          generalize hcc : Pu.byt s (R[0]'hR).1 = c at *
          generalize hgg : gt + 1 + (c - 65) = gr at *
          generalize hbb : G c 0 = bb at *
          have e65 : (65 : Int) ≤ (c : Int) := by omega
          have e90 : (c : Int) ≤ 90 := by omega
          have b6 : (0 : Int) ≤ (c : Int) - 65 := by omega
          have b7 : (c : Int) - 65 < 26 := by omega
          have b8 : (0 : Int) < (v.size : Int) + 1 := by omega
          go_wp2_with fail
          go_ret
          exact ⟨hbl, bb, rfl, G, by rw [← HPN.out]; exact HL.out, by rw [hcc]; exact hbb.symm⟩
        | true =>
          clear hfix
          have hS0 := Pu.Swp.start hU
          clear hU
          go_wp2_with fail
          go_loopg [8, 9] (R.length + 1) (fun q av rv V => ∃ (G' : Nat → Nat → Bool) (b : Bool) (r : Nat), av = .bool b ∧ rv = .int .i64 r ∧ r ≤ R.length ∧ q = R.length + 1 - r ∧ BegM w V w.heap.size top base gt g cap v s R N G' ∧ Pu.Swp N v s R v.size G G' b r 0)
          case atStart => exact ⟨G, false, 0, rfl, rfl, Nat.zero_le _, rfl, hM, hS0⟩
          case round =>
            clear hM hS0
            obtain ⟨G', b, r, rfl, rfl, hr, rfl, hM, hSw⟩ := hrel
            by_cases hrl : r < R.length
            · have b1 : (0 : Int) ≤ (r : Int) := by omega
              have b2 : (r : Int) < (R.length : Int) := by omega
              obtain ⟨f0, _, _⟩ := hM.ra r hrl
              obtain ⟨h65, h90, _, _⟩ := HG.out R[r] (List.getElem_mem hrl)
              have HSET := hide (fun (G' : Nat → Nat → Bool) (b : Bool) (i : Nat) (h : Pu.Swp N v s R v.size G G' b r i) hi hb hg => h.set HG.out hrl hi hb hg)
              have HSKP := hide (fun (G' : Nat → Nat → Bool) (b : Bool) (i : Nat) (h : Pu.Swp N v s R v.size G G' b r i) hs => h.skip hrl hs)
              have HNR := hide (fun G V i => HNC.out G V r i hrl)
              have HBM := hide (fun (V : World) (G' : Nat → Nat → Bool) (h : BegM w V w.heap.size top base gt g cap v s R N G') => (h.ra r hrl).2.1)
              generalize Pu.byt s R[r].1 = c at *
              have e65 : (65 : Int) ≤ (c : Int) := by omega
              have e90 : (c : Int) ≤ 90 := by omega
              go_wp2_with fail
              clear f0
              go_loopg [8, 11] (v.size + 2) (fun q av iv V => ∃ (G' : Nat → Nat → Bool) (b : Bool) (i : Nat), av = .bool b ∧ iv = .int .i64 i ∧ i ≤ v.size + 1 ∧ q = v.size + 2 - i ∧ BegM w V w.heap.size top base gt g cap v s R N G' ∧ Pu.Swp N v s R v.size G G' b r i)
              case atStart => exact ⟨G', b, 0, rfl, rfl, Nat.zero_le _, rfl, hM, hSw⟩
              case round =>
                clear hM hSw
                obtain ⟨G', b, i, rfl, rfl, hi, rfl, hM, hSw⟩ := hrel
                by_cases hil : i ≤ v.size
                · have f1 := HBM.out _ _ hM
                  have hk0 : c - 65 < 26 := by omega
                  have g1 := hM.gd.c1 hk0
                  have g2 := hM.gd.c2 hk0 (show i < v.size + 1 by omega)
                  have g3 := hM.gd.frozen hk0 i
                  simp only [show 65 + (c - 65) = c by omega] at g2
                  have g1' : wr.cell? ⟨gt, ((c : Int) - 65).toNat, none⟩ = some (.slice (some ⟨gt + 1 + (c - 65), 0, none⟩) (v.size + 1) (v.size + 1)) := by rw [show ((c : Int) - 65).toNat = c - 65 by omega]; exact g1
                  have HCL := hide (HNR.out G' _ i hil hM)
                  have hbs := HSKP.out G' b i hSw
                  have hst := HSET.out G' b i hSw hil
                  have HMM := hide (fun d => hM.drewN d)
                  have HMS := hide (fun d => (hM.drewN d).set (i := i) h65 h90)
                  clear hM hSw
                  generalize sub s (R[r].1 + 2) R[r].2 = t at *
                  generalize Pu.beg N v s v.size G' (R[r].2 - (R[r].1 + 2)) (R[r].1 + 2) i = bb at *
                  generalize hgo : G' c i = go at *
                  have hge : ¬ gt = gt + 1 + (c - 65) := by omega
                  have hge' : ¬ gt + 1 + (c - 65) = gt := by omega
                  generalize gt + 1 + (c - 65) = gr at *
                  have b4 : (0 : Int) ≤ (i : Int) := by omega
                  have b5 : (i : Int) < (v.size : Int) + 1 := by omega
                  have b3 : (i : Int) ≤ (v.size : Int) := by omega
                  have b6 : (0 : Int) ≤ (c : Int) - 65 := by omega
                  have b7 : (c : Int) - 65 < 26 := by omega
                  cases bb with
                  | false =>
                    have hX := hbs (fun h => by cases h)
                    clear hbs hst
                    go_wp2_with (go_at_call 53; refine HCL.out.mono ?_; rintro e w2 ⟨rfl, q2, rfl⟩)
                    go_roundg (v.size + 2 - (i + 1))
                    case measure => omega
                    case rel => exact ⟨G', b, i + 1, rfl, by go_num, by omega, rfl, HMM.out _, hX⟩
                  | true =>
                    cases go with
                    | true =>
                      have hX := hbs (fun _ => rfl)
                      clear hbs hst
                      go_wp2_with (go_at_call 53; refine HCL.out.mono ?_; rintro e w2 ⟨rfl, q2, rfl⟩)
                      go_roundg (v.size + 2 - (i + 1))
                      case measure => omega
                      case rel => exact ⟨G', b, i + 1, rfl, by go_num, by omega, rfl, HMM.out _, hX⟩
                    | false =>
                      have hX := hst rfl rfl
                      clear hbs hst
                      go_wp2_with (go_at_call 53; refine HCL.out.mono ?_; rintro e w2 ⟨rfl, q2, rfl⟩)
                      go_roundg (v.size + 2 - (i + 1))
                      case measure => omega
                      case rel => exact ⟨Pu.addG G' c i, true, i + 1, rfl, by go_num, by omega, rfl, HMS.out _, hX⟩
                · obtain rfl : i = v.size + 1 := by omega
                  have hX := hSw.row
                  have b3 : ¬ ((v.size : Int) + 1 ≤ (v.size : Int)) := by omega
                  clear hSw
                  go_wp2_with fail
                  go_roundg (R.length + 1 - (r + 1))
                  case measure => omega
                  case rel => exact ⟨G', b, r + 1, rfl, by go_num, by omega, rfl, hM, hX⟩
            · obtain rfl : r = R.length := by omega
              have hlt : 2 * (TT - Pu.totB G' v.size) + b.toNat < 2 * (TT - Pu.totB G v.size) + 1 := by
                have h1 := HTT.out G'
                have h2 := Pu.totB_le (n := v.size) hSw.le
                cases b with
                | false => simp; omega
                | true => have := hSw.yes rfl; simp; omega
              have hcl : b = false → Pu.Lfp N v s R v.size G' := fun e => by subst e; exact hSw.closed
              have HCL := aside_of hcl
              have HUN := aside_of hSw.under
              clear hSw hcl
              go_wp2_with fail
              go_roundg (2 * (TT - Pu.totB G' v.size) + b.toNat)
              case measure => simpa using hlt
              case rel => exact ⟨G', b, rfl, rfl, hM, HUN.out, HCL.out⟩
end Go.Proofs.YtdbjkcpjpmglkaaDoor
