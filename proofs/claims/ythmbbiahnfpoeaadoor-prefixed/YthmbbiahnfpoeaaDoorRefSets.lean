import Derived.Test.YthmbbiahnfpoeaaDoorProg
import Derived.Test.YthmbbiahnfpoeaaDoorRefRead
import Derived.WalkKit
import Derived.WalkSpells
import Derived.BigQuiet
import Derived.Deep.QuietTactic
import Derived.Deep.RegionWith
import Derived.Deep.LoopGhost
namespace Go.Proofs.YthmbbiahnfpoeaaDoor
open Go.RowKit

theorem hide {p : Prop} (h : p) : Hid p := h
theorem has_cons (s : ByteArray) (r : Nat × Nat) (R : List (Nat × Nat)) (c : Nat) : Pu.has s (r :: R) c = (Pu.byt s r.1 == c || Pu.has s R c) := rfl
theorem ret_bool {a b : Bool} (h : a = b) : Ending.returned (.bool a) = .returned (.bool b) := by rw [h]
theorem ret_int {k : IntKind} {a b : Int} (h : a = b) : Ending.returned (.int k a) = .returned (.int k b) := by rw [h]
/-- The rules lie from the block's start on, three cells each. -/
def RulesAt (w : World) (g : Nat) (s : ByteArray) (R : List (Nat × Nat)) : Prop :=
  ∀ m (h : m < R.length), w.cell? ⟨g, m * 3, none⟩ = some (.int .u8 ↑(Pu.byt s R[m].1)) ∧ w.cell? ⟨g, m * 3 + 1, none⟩ = some (.string (sub s (R[m].1 + 2) R[m].2)) ∧ w.cell? ⟨g, m * 3 + 2, none⟩ = some (.int .i64 R[m].1)

theorem rcells_at (s : ByteArray) : ∀ (R : List (Nat × Nat)) m (h : m < R.length), (rcells s R)[m * 3]? = some (.int .u8 ↑(Pu.byt s R[m].1)) ∧ (rcells s R)[m * 3 + 1]? = some (.string (sub s (R[m].1 + 2) R[m].2)) ∧ (rcells s R)[m * 3 + 2]? = some (.int .i64 R[m].1)
  | r :: R, 0, _ => ⟨rfl, rfl, rfl⟩
  | r :: R, m + 1, h => by
    have := rcells_at s R m (by simpa using h)
    have e : rcells s (r :: R) = [.int .u8 ↑(Pu.byt s r.1), .string (sub s (r.1 + 2) r.2), .int .i64 r.1] ++ rcells s R := rfl
    rw [e]
    refine ⟨?_, ?_, ?_⟩
    · rw [List.getElem?_append_right (by simp; omega)]; simpa [Nat.add_mul] using this.1
    · rw [List.getElem?_append_right (by simp; omega)]; simpa [Nat.add_mul, show (m + 1) * 3 + 1 - 3 = m * 3 + 1 by omega] using this.2.1
    · rw [List.getElem?_append_right (by simp; omega)]; simpa [Nat.add_mul, show (m + 1) * 3 + 2 - 3 = m * 3 + 2 by omega] using this.2.2

theorem rulesAt_of {w : World} {B e g cap : Nat} {s : ByteArray} {R : List (Nat × Nat)} {n : Nat} (h : w.ownsRow B e 3 (.slice (some ⟨g, 0, none⟩) n cap) n (rcells s R)) : RulesAt w g s R := by
  intro m hm
  have hc := h.cells (g := g) rfl
  have ha := rcells_at s R m hm
  have hadd : ∀ j, (⟨g, 0, none⟩ : Addr).add j = ⟨g, j, none⟩ := fun j => by unfold Addr.add; split <;> simp_all
  refine ⟨?_, ?_, ?_⟩
  · rw [← hadd]; exact hc _ _ ha.1
  · rw [← hadd]; exact hc _ _ ha.2.1
  · rw [← hadd]; exact hc _ _ ha.2.2
theorem RulesAt.below {w w' : World} {g : Nat} {s : ByteArray} {R : List (Nat × Nat)} (h : RulesAt w g s R) {B : Nat} (hb : Below B w w') (hg : g < B) : RulesAt w' g s R := by
  intro m hm
  have := h m hm
  rw [hb.cell hg, hb.cell hg, hb.cell hg]
  exact this

theorem has_any (s : ByteArray) (R : List (Nat × Nat)) (g cap c : Nat) (w : World) (hR : RulesAt w g s R) (hn : R.length ≤ 8) :
    Calls Tryd.prog 24 #[.slice (some ⟨g, 0, none⟩) R.length cap, .int .u8 c] w fun e w' => e = .returned (.bool (Pu.has s R c)) ∧ w' = w := by
  go_enter Tryd.func24, Tryd.ntmps24
  go_wp2
  go_loop [5] (fun i => ∃ k : Nat, k ≤ R.length ∧ i = .int .i64 k ∧ Hid (Pu.has s R c = Pu.has s (R.drop k) c)) (fun i => R.length - (intOf i).toNat)
  case atStart => exact ⟨0, Nat.zero_le _, rfl, rfl⟩
  case round =>
    obtain ⟨k, hk, rfl, HS⟩ := hrel
    by_cases hlt : k < R.length
    · have hc := (hR k hlt).1
      clear hR
      have hd := List.drop_eq_getElem_cons hlt
      have HD : Hid (R.drop k = R[k] :: R.drop (k + 1)) := hd
      clear hd
      by_cases he : Pu.byt s R[k].1 = c
      · have he' : (((Pu.byt s R[k].1 : Nat) : Int) == (c : Int)) = true := by rw [he]; exact beq_self_eq_true _
        have HE := hide he
        clear he
        go_wp2
        go_ret
        exact ⟨ret_bool (by rw [HS.out, HD.out, has_cons, HE.out, beq_self_eq_true, Bool.true_or]), rfl⟩
      · have he' : (((Pu.byt s R[k].1 : Nat) : Int) == (c : Int)) = false := by simp; omega
        go_wp2
        exact ⟨⟨k + 1, by omega, by go_num, by show _ = _; rw [HS.out, HD.out, has_cons, beq_eq_false_iff_ne.2 he, Bool.false_or]⟩, by simp [intOf]; omega⟩
    · clear hR
      go_wp2
      go_ret
      exact ⟨by rw [HS.out, List.drop_eq_nil_of_le (by omega)]; rfl, rfl⟩

/-- A row of 26 bools: of each letter's number whether it is in the set. -/
def SetAt (w : World) (g : Nat) (F : Nat → Bool) : Prop := ∀ k, k < 26 → w.cell? ⟨g, k, none⟩ = some (.bool (F (65 + k)))
theorem nm_iff (n : Nat) : Pu.nm n = true ↔ 65 ≤ n ∧ n ≤ 90 := by simp [Pu.nm]

theorem all_any (t : ByteArray) (F : Nat → Bool) (g : Nat) (w : World) (hF : SetAt w g F) (ht : t.size ≤ 50) :
    Calls Tryd.prog 41 #[.string t, .slice (some ⟨g, 0, none⟩) 26 26] w fun e w' => e = .returned (.bool (Pu.allIn t F t.size 0)) ∧ w' = w := by
  go_enter Tryd.func41, Tryd.ntmps41
  go_wp2
  go_loop [5] (fun i => ∃ k : Nat, k ≤ t.size ∧ i = .int .i64 k ∧ Hid (Pu.allIn t F t.size 0 = Pu.allIn t F (t.size - k) k)) (fun i => t.size - (intOf i).toNat)
  case atStart => exact ⟨0, Nat.zero_le _, rfl, rfl⟩
  case round =>
    obtain ⟨k, hk, rfl, HS⟩ := hrel
    by_cases hlt : k < t.size
    · have HD : Hid (Pu.allIn t F (t.size - k) k = if Pu.nm (Pu.byt t k) = true ∧ F (Pu.byt t k) = false then false else Pu.allIn t F (t.size - (k+1)) (k + 1)) := by
        show _ = _
        rw [show t.size - k = (t.size - (k + 1)) + 1 by omega]; rfl
      by_cases hnm : Pu.nm (Pu.byt t k) = true
      · obtain ⟨h65, h90⟩ := (nm_iff _).1 hnm
        have hc := hF (Pu.byt t k - 65) (by omega)
        rw [show 65 + (Pu.byt t k - 65) = Pu.byt t k by omega] at hc
        have hnm' : Pu.nm t[k].toNat = true := by rw [Pu.byt_eq hlt]; exact hnm
        rw [← Pu.byt_eq hlt] at h65 h90 hc
        by_cases hFk : F (Pu.byt t k) = true
        · have HX : Hid (Pu.allIn t F t.size 0 = Pu.allIn t F (t.size - (k + 1)) (k + 1)) := by
            show _ = _
            rw [HS.out, HD.out, if_neg (fun h => by rw [hFk] at h; exact absurd h.2 (by decide))]
          have hFk' : F t[k].toNat = true := by rw [Pu.byt_eq hlt]; exact hFk
          clear hF hnm hFk HS HD
          go_wp2_with (go_at_call 23; refine (isName_any _ _).mono ?_; rintro e w' ⟨rfl, rfl⟩)
          exact ⟨⟨k + 1, by omega, by go_num, HX⟩, by simp [intOf]; omega⟩
        · have hFk0 : F (Pu.byt t k) = false := by simpa using hFk
          have HX : Hid (false = Pu.allIn t F t.size 0) := by
            show _ = _
            rw [HS.out, HD.out, if_pos ⟨hnm, hFk0⟩]
          have hFk' : F t[k].toNat = false := by rw [Pu.byt_eq hlt]; exact hFk0
          clear hF hnm hFk hFk0 HS HD
          go_wp2_with (go_at_call 23; refine (isName_any _ _).mono ?_; rintro e w' ⟨rfl, rfl⟩)
          go_ret
          exact ⟨ret_bool HX.out, rfl⟩
      · have HX : Hid (Pu.allIn t F t.size 0 = Pu.allIn t F (t.size - (k + 1)) (k + 1)) := by
          show _ = _
          rw [HS.out, HD.out, if_neg (fun h => hnm h.1)]
        have hnm' : Pu.nm t[k].toNat = false := by rw [Pu.byt_eq hlt]; simpa using hnm
        clear hF hnm HS HD
        go_wp2_with (go_at_call 23; refine (isName_any _ _).mono ?_; rintro e w' ⟨rfl, rfl⟩)
        exact ⟨⟨k + 1, by omega, by go_num, HX⟩, by simp [intOf]; omega⟩
    · clear hF
      go_wp2
      go_ret
      exact ⟨ret_bool (by rw [HS.out, show t.size - k = 0 by omega]; rfl), rfl⟩

theorem size_sub {s : ByteArray} {a b : Nat} (hb : b ≤ s.size) : (sub s a b).size = b - a := by
  simp [sub, ByteArray.size_extract]; omega
theorem byt_sub {s : ByteArray} {a b k : Nat} (hb : b ≤ s.size) (hk : k < b - a) : Pu.byt (sub s a b) k = Pu.byt s (a + k) := by
  have h1 : k < (sub s a b).size := by rw [size_sub hb]; exact hk
  have h2 : a + k < s.size := by omega
  rw [← Pu.byt_eq h1, ← Pu.byt_eq h2]
  simp [sub, ByteArray.getElem_extract]
theorem allIn_sub {s : ByteArray} {F : Nat → Bool} {a b : Nat} (hb : b ≤ s.size) : ∀ n k, n + k = b - a → Pu.allIn (sub s a b) F n k = Pu.allIn s F n (a + k)
  | 0, _, _ => rfl
  | n + 1, k, h => by
    simp only [Pu.allIn]
    rw [byt_sub hb (by omega), allIn_sub hb n (k + 1) (by omega)]; rfl
end Go.Proofs.YthmbbiahnfpoeaaDoor
