import Derived.Test.YthmbbiahnfpoeaaDoorProg
import Derived.Test.YthmbbiahnfpoeaaDoorCore
import Derived.WalkKit
import Derived.WalkSpells
import Derived.WalkSmall
import Derived.BigQuiet
import Derived.Deep.QuietTactic
import Derived.Deep.RegionWith
import Derived.Deep.LoopGhost
namespace Go.Proofs.YthmbbiahnfpoeaaDoor
open Go.RowKit

/-- An error as the program makes it: fault.In round what is given. -/
def inV (kd : ByteArray) (x : Value) : Value := .iface 112 (.agg #[.string kd, x])
def atV (p : Nat) (x : Value) : Value := .iface 90 (.agg #[.int .i64 p, x])

theorem within_yes (b : Nat) (T : TypeId) (kd s : ByteArray) (k n : Nat) (w : World) (h : Rdr w b T kd s k) (hn : s.size ≤ n) :
    Calls Tryd.prog 34 #[.pointer (some ⟨b, 0, none⟩), .int .i64 n] w fun e w' => e = .returned .nilIface ∧ w' = w := by
  have c1 := h.c1
  clear h
  go_enter Tryd.func34, Tryd.ntmps34
  go_wp2
  go_ret
  exact ⟨rfl, rfl⟩
theorem within_no (b : Nat) (T : TypeId) (kd s : ByteArray) (k n : Nat) (w : World) (h : Rdr w b T kd s k) (hn : n < s.size) (U : TypeId) (x : Addr) (hL : w.cell? ⟨0, 0, none⟩ = some (.iface U (.pointer (some x)))) :
    Calls Tryd.prog 34 #[.pointer (some ⟨b, 0, none⟩), .int .i64 n] w fun e w' => e = .returned (inV kd (.iface U (.pointer (some x)))) ∧ ∃ n, w' = w.drewN n := by
  have c1 := h.c1
  have c0 := h.c0
  clear h
  go_enter Tryd.func34, Tryd.ntmps34
  go_wp2
  go_quiet (fail)
  go_wp2
  go_ret
  exact ⟨rfl, _, rfl⟩
theorem wrong_any (b : Nat) (T : TypeId) (kd s : ByteArray) (k p : Nat) (U : TypeId) (x : Addr) (w : World) (h : Rdr w b T kd s k) :
    Calls Tryd.prog 58 #[.pointer (some ⟨b, 0, none⟩), .int .i64 p, .iface U (.pointer (some x))] w fun e w' => e = .returned (inV kd (atV p (.iface U (.pointer (some x))))) ∧ w' = w := by
  have c0 := h.c0
  clear h
  go_enter Tryd.func58, Tryd.ntmps58
  go_wp2
  go_ret
  exact ⟨rfl, rfl⟩

set_option maxHeartbeats 1000000 in
theorem run_sign (b : Nat) (T : TypeId) (kd s : ByteArray) (k : Nat) (w : World) (h : Rdr w b T kd s k) (hk : k ≤ s.size) (hs : s.size ≤ 50) :
    Calls Tryd.prog 69 #[.pointer (some ⟨b, 0, none⟩), .int .i64 3, .func (.func 76) #[] #[]] w fun e w' => e = .returned (.string (sub s k (Pu.signs s 3 k))) ∧ Rdr w' b T kd s (Pu.signs s 3 k) ∧ w.grownBy w' (some b) := by
  have c2 := h.c2
  go_enter Tryd.func69, Tryd.ntmps69
  go_wp2_with fail
  clear c2
  go_loopg [12] 4 (fun n _ wr => ∃ j : Nat, j ≤ 3 ∧ n = 4 - j ∧ k + j ≤ s.size ∧ Rdr wr b T kd s (k + j) ∧ w.grownBy wr (some b) ∧ Pu.signs s 3 k = Pu.signs s (3 - j) (k + j))
  case atStart => exact ⟨0, by omega, rfl, hk, h, World.grownBy.refl _ _, rfl⟩
  case round =>
    clear h
    obtain ⟨j, hj, rfl, hkj, hr, hg, hsg⟩ := hrel
    have HS := aside_of hsg
    clear hsg
    have c2 := hr.c2
    have c1 := hr.c1
    by_cases hgo : j < 3 ∧ k + j < s.size ∧ Pu.sg (Pu.byt s (k + j)) = true
    · obtain ⟨hj3, hlt, hsg⟩ := hgo
      have HX : Aside (Pu.signs s 3 k = Pu.signs s (3 - (j + 1)) (k + (j + 1))) := by
        show _ = _
        rw [HS.out, show 3 - j = (3 - (j + 1)) + 1 by omega]
        simp only [Pu.signs]
        rw [if_pos ⟨hlt, hsg⟩]; rfl
      have HT : Hid (decide (k + j < s.size ∧ Pu.sg (Pu.byt s (k + j)) = true) = true) := by show _ = _; simp [hlt, hsg]
      clear HS hsg
      go_wp2_with (go_at_call 56; refine (take_sign b T kd s (k + j) true _ HT hr hkj hs).mono ?_; rintro e w1 ⟨rfl, hr1, hg1⟩)
      go_roundg (4 - (j + 1))
      case measure => omega
      case rel => exact ⟨j + 1, by omega, rfl, by omega, hr1, grown_trans hg hg1, HX.out⟩
    · have HX : Aside (Pu.signs s 3 k = k + j) := by
        show _ = _
        rw [HS.out]
        by_cases hj3 : j = 3
        · subst hj3; rfl
        · rw [show 3 - j = (3 - (j + 1)) + 1 by omega]
          simp only [Pu.signs]
          rw [if_neg (fun h => hgo ⟨by omega, h⟩)]
      clear HS
      by_cases hj3 : j < 3
      · have HT : Hid (decide (k + j < s.size ∧ Pu.sg (Pu.byt s (k + j)) = true) = false) := by show _ = _; rw [decide_eq_false_iff_not]; exact fun h => hgo ⟨hj3, h⟩
        clear hgo
        go_wp2_with (go_at_call 56; refine (take_sign b T kd s (k + j) false _ HT hr hkj hs).mono ?_; rintro e w1 ⟨rfl, hr1, hg1⟩)
        have hr2 : Rdr w1 b T kd s (k + j) := hr1
        obtain ⟨p, hp⟩ : ∃ p, p = k + j := ⟨_, rfl⟩
        rw [← hp] at hr2 HX hkj
        have c1' := hr2.c1
        have c2' := hr2.c2
        have b1 : (0 : Int) ≤ (k : Int) := by omega
        have b2 : (k : Int) ≤ (p : Int) := by omega
        have b3 : (p : Int) ≤ (s.size : Int) := by omega
        clear hr1 c1 c2 hr hp
        go_quiet (fail)
        go_wp2
        go_ret
        refine ⟨by rw [HX.out]; simp [sub], ?_, grown_trans hg (grown_trans hg1 (grown_drewN _ _ _))⟩
        rw [HX.out]; exact hr2.drewN _
      · clear hgo
        go_wp2_with fail
        obtain ⟨p, hp⟩ : ∃ p, p = k + j := ⟨_, rfl⟩
        rw [← hp] at hr HX hkj c2
        have b1 : (0 : Int) ≤ (k : Int) := by omega
        have b2 : (k : Int) ≤ (p : Int) := by omega
        have b3 : (p : Int) ≤ (s.size : Int) := by omega
        clear hp
        go_quiet (fail)
        go_wp2
        go_ret
        refine ⟨by rw [HX.out]; simp [sub], ?_, grown_trans hg (grown_drewN _ _ _)⟩
        rw [HX.out]; exact hr.drewN _
end Go.Proofs.YthmbbiahnfpoeaaDoor
