import Derived.Test.YthmbbiahnfpoeaaDoorProg
import Derived.Test.YthmbbiahnfpoeaaDoorPure
import Derived.WalkKit
import Derived.WalkSpells
import Derived.BigQuiet
import Derived.Deep.QuietTactic
import Derived.Deep.RegionWith
import Derived.Deep.LoopGhost
namespace Go.Proofs.YthmbbiahnfpoeaaDoor
open Go.RowKit

theorem isName_any (n : Nat) (w : World) : Calls Tryd.prog 23 #[.int .u8 n] w fun e w' => e = .returned (.bool (Pu.nm n)) ∧ w' = w := by
  by_cases h : 65 ≤ n
  · have h' : (65 : Int) ≤ n := by omega
    go_enter Tryd.func23, Tryd.ntmps23
    go_wp2
    go_ret
    exact ⟨by simp [Pu.nm, h]; omega, rfl⟩
  · have h' : (n : Int) < 65 := by omega
    go_enter Tryd.func23, Tryd.ntmps23
    go_wp2
    go_ret
    exact ⟨by simp [Pu.nm, h], rfl⟩
theorem isLetter_any (n : Nat) (w : World) : Calls Tryd.prog 47 #[.int .u8 n] w fun e w' => e = .returned (.bool (Pu.lt n)) ∧ w' = w := by
  by_cases h : 97 ≤ n
  · have h' : (97 : Int) ≤ n := by omega
    go_enter Tryd.func47, Tryd.ntmps47
    go_wp2
    go_ret
    exact ⟨by simp [Pu.lt, h]; omega, rfl⟩
  · have h' : (n : Int) < 97 := by omega
    go_enter Tryd.func47, Tryd.ntmps47
    go_wp2
    go_ret
    exact ⟨by simp [Pu.lt, h], rfl⟩

/-- A piece of a text. -/
def sub (s : ByteArray) (i j : Nat) : ByteArray := s.extract i j

theorem rule_past (s : ByteArray) (i : Nat) (w : World) (h : i = s.size) :
    Calls Tryd.prog 32 #[.string s, .int .i64 i] w fun e w' => e = .returned (.tuple #[.agg #[.int .u8 0, .string ⟨#[]⟩, .int .i64 i], .int .i64 i, .bool false]) ∧ Below w.heap.size w w' := by
  subst h
  go_enter Tryd.func32, Tryd.ntmps32
  go_wp2
  exact bodyPost_ret (v := .tuple #[.agg #[.int .u8 0, .string ⟨#[]⟩, .int .i64 s.size], .int .i64 s.size, .bool false]) (by simp [results, Tryd.results32, go_sem]) rfl ⟨rfl, ((Below.refl _ _).alloc (Nat.le_refl _) _).alloc (by simp) _⟩
theorem rule_noname (s : ByteArray) (i : Nat) (w : World) (h : i < s.size) (hn : Pu.nm (Pu.byt s i) = false) :
    Calls Tryd.prog 32 #[.string s, .int .i64 i] w fun e w' => e = .returned (.tuple #[.agg #[.int .u8 0, .string ⟨#[]⟩, .int .i64 i], .int .i64 i, .bool false]) ∧ Below w.heap.size w w' := by
  have hi : decide (s.size ≤ i) = false := by simp; omega
  rw [← Pu.byt_eq h] at hn
  go_enter Tryd.func32, Tryd.ntmps32
  go_wp2_with (go_at_call 23; refine (isName_any _ _).mono ?_; rintro e w' ⟨rfl, rfl⟩)
  exact bodyPost_ret (v := .tuple #[.agg #[.int .u8 0, .string ⟨#[]⟩, .int .i64 i], .int .i64 i, .bool false]) (by simp [results, Tryd.results32, go_sem]) rfl ⟨rfl, ((Below.refl _ _).alloc (Nat.le_refl _) _).alloc (by simp) _⟩
theorem rule_noeq (s : ByteArray) (i : Nat) (w : World) (h : i < s.size) (hs : s.size ≤ 50) (hn : Pu.nm (Pu.byt s i) = true) (hq : ¬ (i + 1 < s.size ∧ Pu.byt s (i + 1) = 61)) :
    Calls Tryd.prog 32 #[.string s, .int .i64 i] w fun e w' => (∃ (a : Nat) (t : ByteArray), e = .returned (.tuple #[.agg #[.int .u8 a, .string t, .int .i64 i], .int .i64 ((i : Int) + 1), .bool false])) ∧ Below w.heap.size w w' := by
  have hi : decide (s.size ≤ i) = false := by simp; omega
  rw [← Pu.byt_eq h] at hn
  by_cases h1 : i + 1 < s.size
  · have h2 : ((s[i+1].toNat : Int) != 61) = true := by
      have : Pu.byt s (i+1) ≠ 61 := fun e => hq ⟨h1, e⟩
      rw [← Pu.byt_eq h1] at this
      rw [bne_iff_ne]; omega
    clear hq
    go_enter Tryd.func32, Tryd.ntmps32
    go_wp2_with (go_at_call 23; refine (isName_any _ _).mono ?_; rintro e w' ⟨rfl, rfl⟩)
    exact bodyPost_ret (v := .tuple #[.agg #[.int .u8 ↑(s[i].toNat), .string ⟨#[]⟩, .int .i64 i], .int .i64 ((i : Int) + 1), .bool false]) (by simp [results, Tryd.results32, go_sem]) rfl ⟨⟨_, _, rfl⟩, ((Below.refl _ _).alloc (Nat.le_refl _) _).alloc (by simp) _⟩
  · clear hq
    go_enter Tryd.func32, Tryd.ntmps32
    go_wp2_with (go_at_call 23; refine (isName_any _ _).mono ?_; rintro e w' ⟨rfl, rfl⟩)
    exact bodyPost_ret (v := .tuple #[.agg #[.int .u8 ↑(s[i].toNat), .string ⟨#[]⟩, .int .i64 i], .int .i64 ((i : Int) + 1), .bool false]) (by simp [results, Tryd.results32, go_sem]) rfl ⟨⟨_, _, rfl⟩, ((Below.refl _ _).alloc (Nat.le_refl _) _).alloc (by simp) _⟩
theorem rule_ok (s : ByteArray) (i : Nat) (w : World) (hs : s.size ≤ 50) (hn : Pu.nm (Pu.byt s i) = true) (h1 : i + 1 < s.size) (hq : Pu.byt s (i + 1) = 61) :
    Calls Tryd.prog 32 #[.string s, .int .i64 i] w fun e w' => e = .returned (.tuple #[.agg #[.int .u8 ↑(Pu.byt s i), .string (sub s (i+2) (Pu.signs s 3 (i+2))), .int .i64 i], .int .i64 ↑(Pu.signs s 3 (i+2)), .bool true]) ∧ Below w.heap.size w w' := by
  have hi : decide (s.size ≤ i) = false := by simp; omega
  have h2 : ((s[i+1].toNat : Int) != 61) = false := by
    rw [Pu.byt_eq h1, hq]; rfl
  rw [← Pu.byt_eq (show i < s.size by omega)] at hn
  clear hq
  go_enter Tryd.func32, Tryd.ntmps32
  go_wp2_with (go_at_call 23; refine (isName_any _ _).mono ?_; rintro e w' ⟨rfl, rfl⟩)
  go_loop [8] (fun j => ∃ k : Nat, k ≤ 3 ∧ i + 2 + k ≤ s.size ∧ j = .int .i64 ↑(i + 2 + k) ∧ Pu.signs s 3 (i+2) = Pu.signs s (3 - k) (i + 2 + k)) (fun j => s.size - (intOf j).toNat)
  case atStart => exact ⟨0, by omega, by omega, by go_num, rfl⟩
  case round =>
    obtain ⟨k, hk, hle, rfl, hsg⟩ := hrel
    have HS : Hid (Pu.signs s 3 (i+2) = Pu.signs s (3 - k) (i + 2 + k)) := hsg
    clear hsg
    by_cases hgo : k < 3 ∧ i + 2 + k < s.size ∧ Pu.sg (Pu.byt s (i + 2 + k)) = true
    · obtain ⟨hk3, hlt, hsg⟩ := hgo
      have HS2 : Hid (Pu.signs s 3 (i+2) = Pu.signs s (3 - (k+1)) (i + 2 + (k+1))) := by
        show _ = _
        rw [HS.out, show 3 - k = (3 - (k+1)) + 1 by omega]
        simp only [Pu.signs]
        rw [if_pos ⟨hlt, hsg⟩]; rfl
      clear HS
      by_cases hnm : Pu.nm (Pu.byt s (i + 2 + k)) = true
      · rw [← Pu.byt_eq hlt] at hnm
        clear hsg
        go_wp2_with (first | (go_at_call 23; refine (isName_any _ _).mono ?_; rintro e w' ⟨rfl, rfl⟩) | (go_at_call 47; refine (isLetter_any _ _).mono ?_; rintro e w' ⟨rfl, rfl⟩))
        exact ⟨⟨k + 1, by omega, by omega, by go_num, HS2.out⟩, by simp [intOf]; omega⟩
      · have hlm : Pu.lt (Pu.byt s (i + 2 + k)) = true := by
          simp only [Pu.sg, Bool.or_eq_true] at hsg
          exact hsg.resolve_left hnm
        have hnm' : Pu.nm s[i + 2 + k].toNat = false := by rw [Pu.byt_eq hlt]; simpa using hnm
        rw [← Pu.byt_eq hlt] at hlm
        clear hsg hnm
        go_wp2_with (first | (go_at_call 23; refine (isName_any _ _).mono ?_; rintro e w' ⟨rfl, rfl⟩) | (go_at_call 47; refine (isLetter_any _ _).mono ?_; rintro e w' ⟨rfl, rfl⟩))
        exact ⟨⟨k + 1, by omega, by omega, by go_num, HS2.out⟩, by simp [intOf]; omega⟩
    · have HE : Hid (Pu.signs s 3 (i+2) = i + 2 + k) := by
        show _ = _
        rw [HS.out]
        by_cases hk3 : k = 3
        · subst hk3; rfl
        · rw [show 3 - k = (3 - (k+1)) + 1 by omega]
          simp only [Pu.signs]
          rw [if_neg (fun h => hgo ⟨by omega, h⟩)]
      clear HS
      by_cases hlt : i + 2 + k < s.size
      · by_cases hk3 : k < 3
        · have hsg : Pu.sg (Pu.byt s (i + 2 + k)) = false := by
            cases hh : Pu.sg (Pu.byt s (i + 2 + k)) with
            | false => rfl
            | true => exact absurd ⟨hk3, hlt, hh⟩ hgo
          simp only [Pu.sg, Bool.or_eq_false_iff] at hsg
          obtain ⟨hnm, hlm⟩ := hsg
          rw [← Pu.byt_eq hlt] at hnm hlm
          clear hgo
          go_wp2_with (first | (go_at_call 23; refine (isName_any _ _).mono ?_; rintro e w' ⟨rfl, rfl⟩) | (go_at_call 47; refine (isLetter_any _ _).mono ?_; rintro e w' ⟨rfl, rfl⟩))
          refine bodyPost_ret (v := .tuple #[.agg #[.int .u8 ↑(s[i].toNat), .string (s.extract (i+2) (i+2+k)), .int .i64 i], .int .i64 ((i : Int) + 2 + k), .bool true]) (by simp [results, Tryd.results32, go_sem]) rfl ⟨?_, ((Below.refl _ _).alloc (Nat.le_refl _) _).alloc (by simp) _⟩
          rw [HE.out, Pu.byt_eq (show i < s.size by omega), sub, show ((i + 2 + k : Nat) : Int) = (i : Int) + 2 + k by omega]
        · clear hgo
          go_wp2_with (first | (go_at_call 23; refine (isName_any _ _).mono ?_; rintro e w' ⟨rfl, rfl⟩) | (go_at_call 47; refine (isLetter_any _ _).mono ?_; rintro e w' ⟨rfl, rfl⟩))
          refine bodyPost_ret (v := .tuple #[.agg #[.int .u8 ↑(s[i].toNat), .string (s.extract (i+2) (i+2+k)), .int .i64 i], .int .i64 ((i : Int) + 2 + k), .bool true]) (by simp [results, Tryd.results32, go_sem]) rfl ⟨?_, ((Below.refl _ _).alloc (Nat.le_refl _) _).alloc (by simp) _⟩
          rw [HE.out, Pu.byt_eq (show i < s.size by omega), sub, show ((i + 2 + k : Nat) : Int) = (i : Int) + 2 + k by omega]
      · clear hgo
        go_wp2_with (first | (go_at_call 23; refine (isName_any _ _).mono ?_; rintro e w' ⟨rfl, rfl⟩) | (go_at_call 47; refine (isLetter_any _ _).mono ?_; rintro e w' ⟨rfl, rfl⟩))
        refine bodyPost_ret (v := .tuple #[.agg #[.int .u8 ↑(s[i].toNat), .string (s.extract (i+2) (i+2+k)), .int .i64 i], .int .i64 ((i : Int) + 2 + k), .bool true]) (by simp [results, Tryd.results32, go_sem]) rfl ⟨?_, ((Below.refl _ _).alloc (Nat.le_refl _) _).alloc (by simp) _⟩
        rw [HE.out, Pu.byt_eq (show i < s.size by omega), sub, show ((i + 2 + k : Nat) : Int) = (i : Int) + 2 + k by omega]

/-- rule(g, i): the whole contract. -/
theorem rule_any (s : ByteArray) (i : Nat) (w : World) (hi : i ≤ s.size) (hs : s.size ≤ 50) :
    Calls Tryd.prog 32 #[.string s, .int .i64 i] w fun e w' => ∃ (a : Nat) (t : ByteArray), e = .returned (.tuple #[.agg #[.int .u8 a, .string t, .int .i64 i], .int .i64 ↑(Pu.ruleAt s i).1, .bool (Pu.ruleAt s i).2]) ∧
      ((Pu.ruleAt s i).2 = true → a = Pu.byt s i ∧ t = sub s (i + 2) (Pu.ruleAt s i).1) ∧ Below w.heap.size w w' := by
  by_cases h : i < s.size
  · by_cases hn : Pu.nm (Pu.byt s i) = true
    · by_cases hq : i + 1 < s.size ∧ Pu.byt s (i + 1) = 61
      · have e1 : Pu.ruleAt s i = (Pu.signs s 3 (i + 2), true) := by simp [Pu.ruleAt, h, hn, hq]
        rw [e1]
        refine (rule_ok s i w hs hn hq.1 hq.2).mono ?_
        rintro e w' ⟨he, hb⟩
        exact ⟨_, _, he, fun _ => ⟨rfl, rfl⟩, hb⟩
      · have e1 : Pu.ruleAt s i = (i + 1, false) := by simp only [Pu.ruleAt]; rw [if_pos ⟨h, hn⟩, if_neg hq]
        rw [e1]
        refine (rule_noeq s i w h hs hn hq).mono ?_
        rintro e w' ⟨⟨a, t, he⟩, hb⟩
        exact ⟨a, _, by simpa using he, fun h => by simp at h, hb⟩
    · have e1 : Pu.ruleAt s i = (i, false) := by simp only [Pu.ruleAt]; rw [if_neg (fun h => hn h.2)]
      rw [e1]
      refine (rule_noname s i w h (by simpa using hn)).mono ?_
      rintro e w' ⟨he, hb⟩
      exact ⟨0, _, he, fun h => by simp at h, hb⟩
  · have e1 : Pu.ruleAt s i = (i, false) := by simp only [Pu.ruleAt]; rw [if_neg (fun hh => h hh.1)]
    rw [e1]
    refine (rule_past s i w (by omega)).mono ?_
    rintro e w' ⟨he, hb⟩
    exact ⟨0, _, he, fun h => by simp at h, hb⟩
end Go.Proofs.YthmbbiahnfpoeaaDoor
