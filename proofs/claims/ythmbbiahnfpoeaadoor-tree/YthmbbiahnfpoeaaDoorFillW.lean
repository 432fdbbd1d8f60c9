import Derived.Test.YthmbbiahnfpoeaaDoorGrow
import Derived.Test.YthmbbiahnfpoeaaDoorFill
import Derived.WalkKit
import Derived.WalkSpells
import Derived.WalkSmall
import Derived.BigQuiet
import Derived.Deep.QuietTactic
import Derived.Deep.RegionWith
import Derived.Deep.LoopGhost
import Derived.Deep.RegionHeld3
import Derived.Deep.DeepCutAuto
namespace Go.Proofs.YthmbbiahnfpoeaaDoor
open Go.RowKit

set_option maxRecDepth 100000 in
set_option maxHeartbeats 2000000 in
theorem fill_any (pb top base q g cap B : Nat) (v s : ByteArray) (R : List (Nat × Nat)) (L : List Nat) (m : Nat) (w : World) (hv : v.size ≤ 24) (hG : Pu.Good s R) (hS : Pu.Signed s R) (hn : R.length ≤ 8) (hnd : L.Nodup) (hl8 : L.length ≤ 8) (hL90 : ∀ c ∈ L, 65 ≤ c ∧ c ≤ 90)
    (hLR : ∀ r ∈ R, Pu.byt s r.1 ∈ L) (hLC : ∀ r ∈ R, ∀ a, r.1 + 2 ≤ a → a < r.2 → Pu.nm (Pu.byt s a) = true → Pu.byt s a ∈ L) (hf : pb < base ∧ q < base ∧ g < base ∧ B < base) (hcov : base + L.length * (v.size + 2) ≤ w.heap.size) (hm : Pu.Cnt v s R v.size (Pu.lvl v s R m)) (h : ProgAt w pb top base q g cap B v s R L (fun _ _ _ => 0)) :
    Calls Tryd.prog 72 #[.pointer (some ⟨pb, 0, none⟩)] w fun e w' => e = .returned (.tuple #[]) ∧ ProgAt w' pb top base q g cap B v s R L (Pu.lvl v s R m) ∧ Below base w w' := by
  have HM := hide hm
  have HGr : Hid (∀ (N : Nat → Nat → Nat → Nat) (V : World) (sz fr : Nat), Pu.Fill v s R L v.size (Pu.lvl v s R m) N sz fr → ProgAt V pb top base q g cap B v s R L N → Below base w V → fr + sz ≤ v.size →
      Calls Tryd.prog 81 #[.pointer (some ⟨pb, 0, none⟩), .int .i64 fr, .int .i64 ((fr : Int) + (sz : Int))] V fun e w' => ∃ b M, e = .returned (.bool b) ∧ Pu.Fill v s R L v.size (Pu.lvl v s R m) M sz (if b = true then fr else fr + 1) ∧ ProgAt w' pb top base q g cap B v s R L M ∧ Below base w w' ∧ (b = true → Pu.tot (fun _ _ _ => 2) v.size - Pu.tot M v.size < Pu.tot (fun _ _ _ => 2) v.size - Pu.tot N v.size)) := by
    intro N V sz fr hF hP hb hle
    have := grow_any pb top base q g cap B v s R L N fr (fr + sz) V hv hF.two hG hS hn hnd hl8 hLR hLC hf (by omega) hle (by have := hb.size; omega) hP
    rw [show ((fr + sz : Nat) : Int) = (fr : Int) + (sz : Int) by omega] at this
    refine this.mono ?_
    rintro e w' ⟨b, rfl, h1, h2, h3⟩
    have hg := hF.grow hm.2 hle
    cases b with
    | true => exact ⟨true, _, rfl, hg, h1, hb.trans h2, fun _ => Pu.grow_tot _ hL90 (by omega) hle hg.two h3⟩
    | false =>
      obtain ⟨e, hr⟩ := hF.ready hLR h3
      rw [e] at h1
      exact ⟨false, _, rfl, hr, h1, hb.trans h2, fun h => by cases h⟩
  have hb0 : Below base w w := Below.refl _ _
  have c1 := h.c1
  clear hG hS hn hnd hl8 hL90 hLR hLC hf hcov hm
  go_enter Tryd.func72, Tryd.ntmps72
  go_wp2_with fail
  clear c1
  go_loopg [10] (v.size + 2) (fun n kv V => ∃ (sz : Nat) (N : Nat → Nat → Nat → Nat), kv = .int .i64 sz ∧ sz ≤ v.size + 1 ∧ n = v.size + 2 - sz ∧ Pu.Fill v s R L v.size (Pu.lvl v s R m) N sz 0 ∧ ProgAt V pb top base q g cap B v s R L N ∧ Below base w V)
  case atStart => exact ⟨0, _, rfl, by omega, rfl, Pu.Fill.start, h, hb0⟩
  case round =>
    clear h hb0
    obtain ⟨sz, N, rfl, hsz, rfl, hF, hP, hb⟩ := hrel
    by_cases hle : sz ≤ v.size
    · have c1 := hP.c1
      have b1 : (sz : Int) < (v.size : Int) + 1 := by omega
      go_wp2_with fail
      clear c1
      go_loopg [21] (v.size - sz + 2) (fun n kv V => ∃ (fr : Nat) (N : Nat → Nat → Nat → Nat), kv = .int .i64 fr ∧ fr ≤ v.size - sz + 1 ∧ n = v.size - sz + 2 - fr ∧ Pu.Fill v s R L v.size (Pu.lvl v s R m) N sz fr ∧ ProgAt V pb top base q g cap B v s R L N ∧ Below base w V)
      case atStart => exact ⟨0, N, rfl, by omega, rfl, hF, hP, hb⟩
      case round =>
        clear hF hP hb
        obtain ⟨fr, N, rfl, hfr, rfl, hF, hP, hb⟩ := hrel
        by_cases hlf : fr + sz ≤ v.size
        · have b2 : (fr : Int) < (v.size : Int) - (sz : Int) + 1 := by omega
          go_wp2_with fail
          go_loopg [] (Pu.tot (fun _ _ _ => 2) v.size - Pu.tot N v.size) (fun n V => ∃ (N : Nat → Nat → Nat → Nat), n = Pu.tot (fun _ _ _ => 2) v.size - Pu.tot N v.size ∧ Pu.Fill v s R L v.size (Pu.lvl v s R m) N sz fr ∧ ProgAt V pb top base q g cap B v s R L N ∧ Below base w V)
          case atStart => exact ⟨N, rfl, hF, hP, hb⟩
          case round =>
            clear hF hP hb
            obtain ⟨N, rfl, hF, hP, hb⟩ := hrel
            have HC := hide (HGr.out N _ sz fr hF hP hb hlf)
            clear hF hP hb
            go_wp2_with (go_at_call 81; refine HC.out.mono ?_; rintro e w2 ⟨bb, M, rfl, hF, hP, hb, ht⟩; cases bb)
            · go_roundg (v.size - sz + 2 - (fr + 1))
              case measure => omega
              case rel => exact ⟨fr + 1, M, by go_num, by omega, rfl, hF, hP, hb⟩
            · go_roundg (Pu.tot (fun _ _ _ => 2) v.size - Pu.tot M v.size)
              case measure => simpa using ht
              case rel => exact ⟨M, rfl, hF, hP, hb⟩
        · obtain rfl : fr = v.size - sz + 1 := by omega
          have hF2 := hF.next
          have b2 : ¬ ((v.size : Int) - (sz : Int) + 1 < (v.size : Int) - (sz : Int) + 1) := by omega
          have b3 : ¬ (((v.size - sz + 1 : Nat) : Int) < (v.size : Int) - (sz : Int) + 1) := by omega
          clear hF
          go_wp2_with fail
          go_roundg (v.size + 2 - (sz + 1))
          case measure => omega
          case rel => exact ⟨sz + 1, N, by go_num, by omega, rfl, hF2, hP, hb⟩
    · obtain rfl : sz = v.size + 1 := by omega
      have b1 : ¬ ((v.size : Int) + 1 < (v.size : Int) + 1) := by omega
      have hP2 := hP.congr (M := Pu.lvl v s R m) (fun c i j _ _ hj => hF.end HM.out c i j hj)
      clear hF hP
      go_wp2_with fail
      go_end0
      exact ⟨rfl, hP2, hb⟩
end Go.Proofs.YthmbbiahnfpoeaaDoor
