import Derived.Test.YthmbbiahnfpoeaaDoorProg
import Derived.Test.YthmbbiahnfpoeaaDoorRefCheck
import Derived.WalkKit
import Derived.WalkSpells
import Derived.WalkSmall
import Derived.BigQuiet
import Derived.Deep.QuietTactic
import Derived.Deep.RegionWith
import Derived.Deep.LoopGhost
namespace Go.Proofs.YthmbbiahnfpoeaaDoor
open Go.RowKit

theorem gName_any (n : Nat) (w : World) : Calls Tryd.prog 59 #[.int .u8 n] w fun e w' => e = .returned (.bool (Pu.nm n)) ∧ w' = w := by
  by_cases h : 65 ≤ n
  · have h' : (65 : Int) ≤ n := by omega
    go_enter Tryd.func59, Tryd.ntmps59
    go_wp2
    go_ret
    exact ⟨by simp [Pu.nm, h]; omega, rfl⟩
  · have h' : (n : Int) < 65 := by omega
    go_enter Tryd.func59, Tryd.ntmps59
    go_wp2
    go_ret
    exact ⟨by simp [Pu.nm, h], rfl⟩
theorem gLetter_any (n : Nat) (w : World) : Calls Tryd.prog 70 #[.int .u8 n] w fun e w' => e = .returned (.bool (Pu.lt n)) ∧ w' = w := by
  by_cases h : 97 ≤ n
  · have h' : (97 : Int) ≤ n := by omega
    go_enter Tryd.func70, Tryd.ntmps70
    go_wp2
    go_ret
    exact ⟨by simp [Pu.lt, h]; omega, rfl⟩
  · have h' : (n : Int) < 97 := by omega
    go_enter Tryd.func70, Tryd.ntmps70
    go_wp2
    go_ret
    exact ⟨by simp [Pu.lt, h], rfl⟩
theorem gSign_any (n : Nat) (w : World) : Calls Tryd.prog 76 #[.int .u8 n] w fun e w' => e = .returned (.bool (Pu.sg n)) ∧ w' = w := by
  by_cases h : Pu.nm n = true
  · go_enter Tryd.func76, Tryd.ntmps76
    go_wp2_with (first | (go_at_call 59; refine (gName_any _ _).mono ?_; rintro e w' ⟨rfl, rfl⟩) | (go_at_call 70; refine (gLetter_any _ _).mono ?_; rintro e w' ⟨rfl, rfl⟩))
    go_ret
    exact ⟨by simp [Pu.sg, h], rfl⟩
  · have h0 : Pu.nm n = false := by simpa using h
    clear h
    go_enter Tryd.func76, Tryd.ntmps76
    go_wp2_with (first | (go_at_call 59; refine (gName_any _ _).mono ?_; rintro e w' ⟨rfl, rfl⟩) | (go_at_call 70; refine (gLetter_any _ _).mono ?_; rintro e w' ⟨rfl, rfl⟩))
    go_ret
    exact ⟨by simp [Pu.sg, h0], rfl⟩

theorem only_any (c : Nat) (w : World) : Calls Tryd.prog 57 #[.int .u8 c] w fun e w' => e = .returned (.func (.func 77) #[] #[.pointer (some ⟨w.heap.size, 0, none⟩)]) ∧ w' = w.alloc (.cells #[.int .u8 c] 5) := by
  have hmf : ∀ (fn : Fn) (first cap : Array Value) (w : World), (Instr.makeFunc fn first cap).run Tryd.prog w = .ok (.func fn first cap) w := fun _ _ _ _ => rfl
  go_enter Tryd.func57, Tryd.ntmps57
  go_wp2
  go_ret
  exact ⟨rfl, rfl⟩
theorem only1_any (n c b : Nat) (w : World) (hc : w.cell? ⟨b, 0, none⟩ = some (.int .u8 c)) : Calls Tryd.prog 77 #[.int .u8 n, .pointer (some ⟨b, 0, none⟩)] w fun e w' => e = .returned (.bool (n == c)) ∧ w' = w := by
  go_enter Tryd.func77, Tryd.ntmps77
  go_wp2
  go_ret
  exact ⟨ret_bool (by rw [Bool.eq_iff_iff]; simp; omega), rfl⟩

/-- A reader's block: its kind, its text, its place. -/
def Rdr (w : World) (b : Nat) (T : TypeId) (kd s : ByteArray) (at_ : Nat) : Prop := w.heap[b]? = some (.cells #[.string kd, .string s, .int .i64 at_] T (0, 0))
theorem Rdr.c0 {w : World} {b : Nat} {T : TypeId} {kd s : ByteArray} {k : Nat} (h : Rdr w b T kd s k) : w.cell? ⟨b, 0, none⟩ = some (.string kd) := by unfold Rdr at h; simp [World.cell?, h]
theorem Rdr.c1 {w : World} {b : Nat} {T : TypeId} {kd s : ByteArray} {k : Nat} (h : Rdr w b T kd s k) : w.cell? ⟨b, 1, none⟩ = some (.string s) := by unfold Rdr at h; simp [World.cell?, h]
theorem Rdr.c2 {w : World} {b : Nat} {T : TypeId} {kd s : ByteArray} {k : Nat} (h : Rdr w b T kd s k) : w.cell? ⟨b, 2, none⟩ = some (.int .i64 k) := by unfold Rdr at h; simp [World.cell?, h]
theorem Rdr.fz {w : World} {b : Nat} {T : TypeId} {kd s : ByteArray} {k : Nat} (h : Rdr w b T kd s k) (o : Nat) : w.frozen? ⟨b, o, none⟩ = false := by unfold Rdr at h; simp [World.frozen?, h]
theorem Rdr.lt {w : World} {b : Nat} {T : TypeId} {kd s : ByteArray} {k : Nat} (h : Rdr w b T kd s k) : b < w.heap.size := (Array.getElem?_eq_some_iff.1 h).1
theorem Rdr.drewN {w : World} {b : Nat} {T : TypeId} {kd s : ByteArray} {k : Nat} (h : Rdr w b T kd s k) (n : Nat) : Rdr (w.drewN n) b T kd s k := h
theorem Rdr.set {w : World} {b : Nat} {T : TypeId} {kd s : ByteArray} {k : Nat} (h : Rdr w b T kd s k) (j : Nat) : Rdr (w.setCell ⟨b, 2, none⟩ (.int .i64 j)) b T kd s j := by
  unfold Rdr at *
  show (w.heap.modify b _)[b]? = _
  rw [Array.getElem?_modify, if_pos rfl, h]; rfl
theorem Rdr.grown {w w' : World} {b : Nat} {T : TypeId} {kd s : ByteArray} {k : Nat} (h : Rdr w b T kd s k) {row : Option Nat} (hg : w.grownBy w' row) (hne : some b ≠ row) : Rdr w' b T kd s k := (hg.block b h.lt hne).trans h
theorem grown_trans {a b c : World} {row : Option Nat} (h : a.grownBy b row) (k : b.grownBy c row) : a.grownBy c row :=
  ⟨k.os.trans h.os, k.tape.trans h.tape, k.output.trans h.output, Nat.le_trans h.size k.size, fun i hi hn => (k.block i (Nat.lt_of_lt_of_le hi h.size) hn).trans (h.block i hi hn)⟩
theorem grown_drewN (w : World) (n : Nat) (row : Option Nat) : w.grownBy (w.drewN n) row := ⟨rfl, rfl, rfl, Nat.le_refl _, fun _ _ _ => rfl⟩
theorem grown_set (w : World) (b o : Nat) (v : Value) : w.grownBy (w.setCell ⟨b, o, none⟩ v) (some b) := ⟨rfl, rfl, rfl, by simp, fun k _ hk => Below.heap_setCell _ _ _ _ (fun e => hk (by rw [e]))⟩

theorem ended_any (b : Nat) (T : TypeId) (kd s : ByteArray) (k : Nat) (w : World) (h : Rdr w b T kd s k) :
    Calls Tryd.prog 55 #[.pointer (some ⟨b, 0, none⟩)] w fun e w' => e = .returned (.bool (k == s.size)) ∧ ∃ n, w' = w.drewN n := by
  have c1 := h.c1
  have c2 := h.c2
  clear h
  go_enter Tryd.func55, Tryd.ntmps55
  go_wp2
  go_quiet (fail)
  go_wp2
  go_ret
  exact ⟨ret_bool (by rw [Bool.eq_iff_iff]; simp; omega), _, rfl⟩
theorem ended_at (b : Nat) (T : TypeId) (kd s : ByteArray) (k : Nat) (r : Bool) (w : World) (hr : Hid ((k == s.size) = r)) (h : Rdr w b T kd s k) :
    Calls Tryd.prog 55 #[.pointer (some ⟨b, 0, none⟩)] w fun e w' => e = .returned (.bool r) ∧ ∃ n, w' = w.drewN n := by
  have h := ended_any b T kd s k w h
  rw [hr.out] at h; exact h

set_option maxHeartbeats 1000000 in
theorem take_end (b : Nat) (T : TypeId) (kd s : ByteArray) (fv : Value) (w : World) (h : Rdr w b T kd s s.size) :
    Calls Tryd.prog 56 #[.pointer (some ⟨b, 0, none⟩), fv] w fun e w' => e = .returned (.bool false) ∧ Rdr w' b T kd s s.size ∧ w.grownBy w' (some b) := by
  have HE : Hid ((s.size == s.size) = true) := beq_self_eq_true _
  go_enter Tryd.func56, Tryd.ntmps56
  go_wp2_with fail
  go_quiet ((go_at_call 55; exact Calls.quiet_of (ended_at b T kd s s.size true _ HE (h.drewN _))))
  go_wp2
  go_ret
  exact ⟨rfl, h.drewN _, grown_drewN _ _ _⟩
set_option maxHeartbeats 1000000 in
theorem take_name_yes (b : Nat) (T : TypeId) (kd s : ByteArray) (k : Nat) (w : World) (h : Rdr w b T kd s k) (hk : k < s.size) (hs : s.size ≤ 50) (hn : Pu.nm (Pu.byt s k) = true) :
    Calls Tryd.prog 56 #[.pointer (some ⟨b, 0, none⟩), .func (.func 59) #[] #[]] w fun e w' => e = .returned (.bool true) ∧ Rdr w' b T kd s (k + 1) ∧ w.grownBy w' (some b) := by
  have HE : Hid ((k == s.size) = false) := beq_eq_false_iff_ne.2 (by omega)
  have c1 := h.c1
  have c2 := h.c2
  have f2 := h.fz 2
  rw [← Pu.byt_eq hk] at hn
  go_enter Tryd.func56, Tryd.ntmps56
  go_wp2_with fail
  go_quiet (first | (go_at_call 55; exact Calls.quiet_of (ended_at b T kd s k false _ HE (h.drewN _))) | (go_at_call 59; exact Calls.quiet_of_same (gName_any _ _)))
  go_wp2
  go_ret
  refine ⟨rfl, ?_, grown_trans (grown_drewN _ _ _) (grown_set _ _ _ _)⟩
  have := (h.drewN nq).set (k + 1)
  rwa [show ((k + 1 : Nat) : Int) = (k : Int) + 1 by omega] at this
set_option maxHeartbeats 1000000 in
theorem take_name_no (b : Nat) (T : TypeId) (kd s : ByteArray) (k : Nat) (w : World) (h : Rdr w b T kd s k) (hk : k < s.size) (hn : Pu.nm (Pu.byt s k) = false) :
    Calls Tryd.prog 56 #[.pointer (some ⟨b, 0, none⟩), .func (.func 59) #[] #[]] w fun e w' => e = .returned (.bool false) ∧ Rdr w' b T kd s k ∧ w.grownBy w' (some b) := by
  have HE : Hid ((k == s.size) = false) := beq_eq_false_iff_ne.2 (by omega)
  have c1 := h.c1
  have c2 := h.c2
  have f2 := h.fz 2
  rw [← Pu.byt_eq hk] at hn
  go_enter Tryd.func56, Tryd.ntmps56
  go_wp2_with fail
  go_quiet (first | (go_at_call 55; exact Calls.quiet_of (ended_at b T kd s k false _ HE (h.drewN _))) | (go_at_call 59; exact Calls.quiet_of_same (gName_any _ _)))
  go_wp2
  go_ret
  exact ⟨rfl, h.drewN _, grown_drewN _ _ _⟩
set_option maxHeartbeats 1000000 in
theorem take_sign_yes (b : Nat) (T : TypeId) (kd s : ByteArray) (k : Nat) (w : World) (h : Rdr w b T kd s k) (hk : k < s.size) (hs : s.size ≤ 50) (hn : Pu.sg (Pu.byt s k) = true) :
    Calls Tryd.prog 56 #[.pointer (some ⟨b, 0, none⟩), .func (.func 76) #[] #[]] w fun e w' => e = .returned (.bool true) ∧ Rdr w' b T kd s (k + 1) ∧ w.grownBy w' (some b) := by
  have HE : Hid ((k == s.size) = false) := beq_eq_false_iff_ne.2 (by omega)
  have c1 := h.c1
  have c2 := h.c2
  have f2 := h.fz 2
  rw [← Pu.byt_eq hk] at hn
  go_enter Tryd.func56, Tryd.ntmps56
  go_wp2_with fail
  go_quiet (first | (go_at_call 55; exact Calls.quiet_of (ended_at b T kd s k false _ HE (h.drewN _))) | (go_at_call 76; exact Calls.quiet_of_same (gSign_any _ _)))
  go_wp2
  go_ret
  refine ⟨rfl, ?_, grown_trans (grown_drewN _ _ _) (grown_set _ _ _ _)⟩
  have := (h.drewN nq).set (k + 1)
  rwa [show ((k + 1 : Nat) : Int) = (k : Int) + 1 by omega] at this
set_option maxHeartbeats 1000000 in
theorem take_sign_no (b : Nat) (T : TypeId) (kd s : ByteArray) (k : Nat) (w : World) (h : Rdr w b T kd s k) (hk : k < s.size) (hn : Pu.sg (Pu.byt s k) = false) :
    Calls Tryd.prog 56 #[.pointer (some ⟨b, 0, none⟩), .func (.func 76) #[] #[]] w fun e w' => e = .returned (.bool false) ∧ Rdr w' b T kd s k ∧ w.grownBy w' (some b) := by
  have HE : Hid ((k == s.size) = false) := beq_eq_false_iff_ne.2 (by omega)
  have c1 := h.c1
  have c2 := h.c2
  have f2 := h.fz 2
  rw [← Pu.byt_eq hk] at hn
  go_enter Tryd.func56, Tryd.ntmps56
  go_wp2_with fail
  go_quiet (first | (go_at_call 55; exact Calls.quiet_of (ended_at b T kd s k false _ HE (h.drewN _))) | (go_at_call 76; exact Calls.quiet_of_same (gSign_any _ _)))
  go_wp2
  go_ret
  exact ⟨rfl, h.drewN _, grown_drewN _ _ _⟩
set_option maxHeartbeats 1000000 in
theorem take_letter_yes (b : Nat) (T : TypeId) (kd s : ByteArray) (k : Nat) (w : World) (h : Rdr w b T kd s k) (hk : k < s.size) (hs : s.size ≤ 50) (hn : Pu.lt (Pu.byt s k) = true) :
    Calls Tryd.prog 56 #[.pointer (some ⟨b, 0, none⟩), .func (.func 70) #[] #[]] w fun e w' => e = .returned (.bool true) ∧ Rdr w' b T kd s (k + 1) ∧ w.grownBy w' (some b) := by
  have HE : Hid ((k == s.size) = false) := beq_eq_false_iff_ne.2 (by omega)
  have c1 := h.c1
  have c2 := h.c2
  have f2 := h.fz 2
  rw [← Pu.byt_eq hk] at hn
  go_enter Tryd.func56, Tryd.ntmps56
  go_wp2_with fail
  go_quiet (first | (go_at_call 55; exact Calls.quiet_of (ended_at b T kd s k false _ HE (h.drewN _))) | (go_at_call 70; exact Calls.quiet_of_same (gLetter_any _ _)))
  go_wp2
  go_ret
  refine ⟨rfl, ?_, grown_trans (grown_drewN _ _ _) (grown_set _ _ _ _)⟩
  have := (h.drewN nq).set (k + 1)
  rwa [show ((k + 1 : Nat) : Int) = (k : Int) + 1 by omega] at this
set_option maxHeartbeats 1000000 in
theorem take_letter_no (b : Nat) (T : TypeId) (kd s : ByteArray) (k : Nat) (w : World) (h : Rdr w b T kd s k) (hk : k < s.size) (hn : Pu.lt (Pu.byt s k) = false) :
    Calls Tryd.prog 56 #[.pointer (some ⟨b, 0, none⟩), .func (.func 70) #[] #[]] w fun e w' => e = .returned (.bool false) ∧ Rdr w' b T kd s k ∧ w.grownBy w' (some b) := by
  have HE : Hid ((k == s.size) = false) := beq_eq_false_iff_ne.2 (by omega)
  have c1 := h.c1
  have c2 := h.c2
  have f2 := h.fz 2
  rw [← Pu.byt_eq hk] at hn
  go_enter Tryd.func56, Tryd.ntmps56
  go_wp2_with fail
  go_quiet (first | (go_at_call 55; exact Calls.quiet_of (ended_at b T kd s k false _ HE (h.drewN _))) | (go_at_call 70; exact Calls.quiet_of_same (gLetter_any _ _)))
  go_wp2
  go_ret
  exact ⟨rfl, h.drewN _, grown_drewN _ _ _⟩
set_option maxHeartbeats 1000000 in
theorem take_only_yes (b : Nat) (T : TypeId) (kd s : ByteArray) (k c bx : Nat) (w : World) (h : Rdr w b T kd s k) (hk : k < s.size) (hs : s.size ≤ 50) (hcap : w.cell? ⟨bx, 0, none⟩ = some (.int .u8 c)) (hn : (Pu.byt s k == c) = true) :
    Calls Tryd.prog 56 #[.pointer (some ⟨b, 0, none⟩), .func (.func 77) #[] #[.pointer (some ⟨bx, 0, none⟩)]] w fun e w' => e = .returned (.bool true) ∧ Rdr w' b T kd s (k + 1) ∧ w.grownBy w' (some b) := by
  have HE : Hid ((k == s.size) = false) := beq_eq_false_iff_ne.2 (by omega)
  have c1 := h.c1
  have c2 := h.c2
  have f2 := h.fz 2
  rw [← Pu.byt_eq hk] at hn
  go_enter Tryd.func56, Tryd.ntmps56
  go_wp2_with fail
  go_quiet (first | (go_at_call 55; exact Calls.quiet_of (ended_at b T kd s k false _ HE (h.drewN _))) | (go_at_call 77; exact Calls.quiet_of_same (only1_any _ c bx _ (by simpa using hcap))))
  go_wp2
  go_ret
  refine ⟨rfl, ?_, grown_trans (grown_drewN _ _ _) (grown_set _ _ _ _)⟩
  have := (h.drewN nq).set (k + 1)
  rwa [show ((k + 1 : Nat) : Int) = (k : Int) + 1 by omega] at this
set_option maxHeartbeats 1000000 in
theorem take_only_no (b : Nat) (T : TypeId) (kd s : ByteArray) (k c bx : Nat) (w : World) (h : Rdr w b T kd s k) (hk : k < s.size) (hcap : w.cell? ⟨bx, 0, none⟩ = some (.int .u8 c)) (hn : (Pu.byt s k == c) = false) :
    Calls Tryd.prog 56 #[.pointer (some ⟨b, 0, none⟩), .func (.func 77) #[] #[.pointer (some ⟨bx, 0, none⟩)]] w fun e w' => e = .returned (.bool false) ∧ Rdr w' b T kd s k ∧ w.grownBy w' (some b) := by
  have HE : Hid ((k == s.size) = false) := beq_eq_false_iff_ne.2 (by omega)
  have c1 := h.c1
  have c2 := h.c2
  have f2 := h.fz 2
  rw [← Pu.byt_eq hk] at hn
  go_enter Tryd.func56, Tryd.ntmps56
  go_wp2_with fail
  go_quiet (first | (go_at_call 55; exact Calls.quiet_of (ended_at b T kd s k false _ HE (h.drewN _))) | (go_at_call 77; exact Calls.quiet_of_same (only1_any _ c bx _ (by simpa using hcap))))
  go_wp2
  go_ret
  exact ⟨rfl, h.drewN _, grown_drewN _ _ _⟩
theorem take_name (b : Nat) (T : TypeId) (kd s : ByteArray) (k : Nat) (r : Bool) (w : World) (hr : Hid (decide (k < s.size ∧ Pu.nm (Pu.byt s k) = true) = r)) (h : Rdr w b T kd s k) (hk : k ≤ s.size) (hs : s.size ≤ 50) :
    Calls Tryd.prog 56 #[.pointer (some ⟨b, 0, none⟩), .func (.func 59) #[] #[]] w fun e w' => e = .returned (.bool r) ∧ Rdr w' b T kd s (k + r.toNat) ∧ w.grownBy w' (some b) := by
  by_cases hlt : k < s.size
  · cases hn : Pu.nm (Pu.byt s k) with
    | true =>
      obtain rfl : r = true := by rw [← hr.out]; simp [hlt]; simpa using hn
      exact take_name_yes b T kd s k w h hlt hs hn
    | false =>
      obtain rfl : r = false := by rw [← hr.out]; simp; intro _; simpa using hn
      exact take_name_no b T kd s k w h hlt hn
  · obtain rfl : k = s.size := by omega
    obtain rfl : r = false := by rw [← hr.out]; simp
    exact take_end b T kd s _ w h
theorem take_sign (b : Nat) (T : TypeId) (kd s : ByteArray) (k : Nat) (r : Bool) (w : World) (hr : Hid (decide (k < s.size ∧ Pu.sg (Pu.byt s k) = true) = r)) (h : Rdr w b T kd s k) (hk : k ≤ s.size) (hs : s.size ≤ 50) :
    Calls Tryd.prog 56 #[.pointer (some ⟨b, 0, none⟩), .func (.func 76) #[] #[]] w fun e w' => e = .returned (.bool r) ∧ Rdr w' b T kd s (k + r.toNat) ∧ w.grownBy w' (some b) := by
  by_cases hlt : k < s.size
  · cases hn : Pu.sg (Pu.byt s k) with
    | true =>
      obtain rfl : r = true := by rw [← hr.out]; simp [hlt]; simpa using hn
      exact take_sign_yes b T kd s k w h hlt hs hn
    | false =>
      obtain rfl : r = false := by rw [← hr.out]; simp; intro _; simpa using hn
      exact take_sign_no b T kd s k w h hlt hn
  · obtain rfl : k = s.size := by omega
    obtain rfl : r = false := by rw [← hr.out]; simp
    exact take_end b T kd s _ w h
theorem take_letter (b : Nat) (T : TypeId) (kd s : ByteArray) (k : Nat) (r : Bool) (w : World) (hr : Hid (decide (k < s.size ∧ Pu.lt (Pu.byt s k) = true) = r)) (h : Rdr w b T kd s k) (hk : k ≤ s.size) (hs : s.size ≤ 50) :
    Calls Tryd.prog 56 #[.pointer (some ⟨b, 0, none⟩), .func (.func 70) #[] #[]] w fun e w' => e = .returned (.bool r) ∧ Rdr w' b T kd s (k + r.toNat) ∧ w.grownBy w' (some b) := by
  by_cases hlt : k < s.size
  · cases hn : Pu.lt (Pu.byt s k) with
    | true =>
      obtain rfl : r = true := by rw [← hr.out]; simp [hlt]; simpa using hn
      exact take_letter_yes b T kd s k w h hlt hs hn
    | false =>
      obtain rfl : r = false := by rw [← hr.out]; simp; intro _; simpa using hn
      exact take_letter_no b T kd s k w h hlt hn
  · obtain rfl : k = s.size := by omega
    obtain rfl : r = false := by rw [← hr.out]; simp
    exact take_end b T kd s _ w h
theorem take_only (b : Nat) (T : TypeId) (kd s : ByteArray) (k c bx : Nat) (r : Bool) (w : World) (hr : Hid (decide (k < s.size ∧ (Pu.byt s k == c) = true) = r)) (h : Rdr w b T kd s k) (hk : k ≤ s.size) (hs : s.size ≤ 50) (hcap : w.cell? ⟨bx, 0, none⟩ = some (.int .u8 c)) :
    Calls Tryd.prog 56 #[.pointer (some ⟨b, 0, none⟩), .func (.func 77) #[] #[.pointer (some ⟨bx, 0, none⟩)]] w fun e w' => e = .returned (.bool r) ∧ Rdr w' b T kd s (k + r.toNat) ∧ w.grownBy w' (some b) := by
  by_cases hlt : k < s.size
  · cases hn : (Pu.byt s k == c) with
    | true =>
      obtain rfl : r = true := by rw [← hr.out]; simp [hlt]; simpa using hn
      exact take_only_yes b T kd s k c bx w h hlt hs hcap hn
    | false =>
      obtain rfl : r = false := by rw [← hr.out]; simp; intro _; simpa using hn
      exact take_only_no b T kd s k c bx w h hlt hcap hn
  · obtain rfl : k = s.size := by omega
    obtain rfl : r = false := by rw [← hr.out]; simp
    exact take_end b T kd s _ w h
end Go.Proofs.YthmbbiahnfpoeaaDoor
