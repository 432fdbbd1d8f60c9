import Derived.Test.YthmbbiahnfpoeaaDoorProg
import Derived.Test.YthmbbiahnfpoeaaDoorRefFruit
import Derived.WalkKit
import Derived.WalkSpells
import Derived.WalkSmall
import Derived.BigQuiet
import Derived.Deep.QuietTactic
import Derived.Deep.RegionWith
import Derived.Deep.LoopGhost
namespace Go.Proofs.YthmbbiahnfpoeaaDoor
open Go.RowKit

theorem rcheck_long (s : ByteArray) (w : World) (hs : 50 < s.size) (hm : s.size ≤ maxLen) :
    Calls Tryd.prog 10 #[.string s] w fun e w' => e = .returned (.tuple #[.int .i64 1, .int .i64 0]) ∧ w' = w := by
  unfold maxLen at hm
  go_enter Tryd.func10, Tryd.ntmps10
  go_wp2
  go_ret2
  exact ⟨rfl, rfl⟩

theorem bad_drop {s : ByteArray} {R : List (Nat × Nat)} {k : Nat} (h : k < R.length) :
    Pu.bad s R (R.drop k) = match Pu.badIn s R (R[k].2 - (R[k].1 + 2)) (R[k].1 + 2) with | some q => some q | none => Pu.bad s R (R.drop (k + 1)) := by
  rw [List.drop_eq_getElem_cons h]; rfl
theorem barren_drop {s : ByteArray} {R : List (Nat × Nat)} {F : Nat → Bool} {k : Nat} (h : k < R.length) :
    Pu.barren s F (R.drop k) = if F (Pu.byt s R[k].1) = true then Pu.barren s F (R.drop (k + 1)) else some R[k].1 := by
  rw [List.drop_eq_getElem_cons h]; rfl
theorem badIn_succ (s : ByteArray) (R : List (Nat × Nat)) (n j : Nat) : Pu.badIn s R (n + 1) j = if Pu.nm (Pu.byt s j) = true ∧ Pu.has s R (Pu.byt s j) = false then some j else Pu.badIn s R n (j + 1) := rfl
theorem has_at (s : ByteArray) (R : List (Nat × Nat)) (g cap c : Nat) (b : Bool) (w : World) (hb : Hid (Pu.has s R c = b)) (hR : RulesAt w g s R) (hn : R.length ≤ 8) :
    Calls Tryd.prog 24 #[.slice (some ⟨g, 0, none⟩) R.length cap, .int .u8 c] w fun e w' => e = .returned (.bool b) ∧ w' = w := by
  have h := has_any s R g cap c w hR hn
  rw [hb.out] at h; exact h

set_option maxRecDepth 100000 in
set_option maxHeartbeats 1000000 in
theorem rcheck_any (s : ByteArray) (w : World) (hs : s.size ≤ 50) :
    Calls Tryd.prog 10 #[.string s] w fun e w' => (∃ a p : Nat, e = .returned (.tuple #[.int .i64 a, .int .i64 p]) ∧ Pu.Chk s a p) ∧ Below w.heap.size w w' := by
  have HC : Aside (∀ a p, Pu.Chk s a p ↔ if (Pu.parse s 8 0).2.2 = true then
    match Pu.bad s (Pu.parse s 8 0).1 (Pu.parse s 8 0).1 with
    | some k => a = 3 ∧ p = k
    | none => ∃ F, Pu.Still s (Pu.parse s 8 0).1 F ∧ match Pu.barren s F (Pu.parse s 8 0).1 with | some k => a = 4 ∧ p = k | none => a = 0 ∧ p = 0
  else a = 2 ∧ p = (Pu.parse s 8 0).2.1) := by
    intro a p
    unfold Pu.Chk
    rw [if_neg (by omega)]
    exact Iff.rfl
  have hgd := Pu.parse_good s 8 0
  obtain ⟨R, q, b, hp⟩ : ∃ R q b, Pu.parse s 8 0 = (R, q, b) := ⟨_, _, _, rfl⟩
  have hread := fun w => Read_any s w hs
  rw [hp] at HC hgd hread
  obtain ⟨hG, hn, hne⟩ := hgd
  cases b with
  | false =>
    have hread' : ∀ w, Calls Tryd.prog 17 #[.string s] w fun e w' => Below w.heap.size w w' ∧ e = .returned (.tuple #[.slice none 0 0, .int .i64 q, .bool false]) := fun w => (hread w).mono (by
      rintro e w' ⟨hb, ⟨_, he⟩ | ⟨h, _⟩⟩
      · exact ⟨hb, he⟩
      · cases h)
    have HR := hide hread'
    clear hread hread' hp
    go_enter Tryd.func10, Tryd.ntmps10
    go_wp2_with (go_at_call 17; refine (HR.out _).mono ?_; rintro e w1 ⟨hb1, rfl⟩)
    go_ret2
    exact ⟨⟨2, q, rfl, (HC.out 2 q).2 (by simp)⟩, hb1⟩
  | true =>
    have hread' : ∀ w, Calls Tryd.prog 17 #[.string s] w fun e w' => Below w.heap.size w w' ∧ ∃ g cap, e = .returned (.tuple #[.slice (some ⟨g, 0, none⟩) R.length cap, .int .i64 q, .bool true]) ∧ w.heap.size ≤ g ∧ g < w'.heap.size ∧ RulesAt w' g s R := fun w => (hread w).mono (by
      rintro e w' ⟨hb, ⟨h, he⟩ | ⟨_, v, he, hown⟩⟩
      · cases h
      · refine ⟨hb, ?_⟩
        have hown' := hown
        rcases hown.2 with ⟨_, h0⟩ | ⟨g, cap, _, rfl, hbg, _⟩
        · exact absurd (List.eq_nil_of_length_eq_zero h0) (hne rfl)
        · exact ⟨g, cap, he, hbg, (hown'.lt g rfl).2, rulesAt_of hown'⟩)
    have HR := hide hread'
    have HC2 : Aside (∀ a p, Pu.Chk s a p ↔ match Pu.bad s R R with | some k => a = 3 ∧ p = k | none => ∃ F, Pu.Still s R F ∧ match Pu.barren s F R with | some k => a = 4 ∧ p = k | none => a = 0 ∧ p = 0) := by
      intro a p; rw [HC.out]; simp
    clear hread hread' hp HC hne
    go_enter Tryd.func10, Tryd.ntmps10
    go_wp2_with (go_at_call 17; refine (HR.out _).mono ?_; rintro e w1 ⟨hb1, g, cap, rfl, hg1, hg2, hRA⟩)
    go_loop [7] (fun iv => ∃ k : Nat, k ≤ R.length ∧ iv = .int .i64 k ∧ Hid (Pu.bad s R R = Pu.bad s R (R.drop k))) (fun i => R.length - (intOf i).toNat)
    case atStart => exact ⟨0, Nat.zero_le _, rfl, rfl⟩
    case round =>
      obtain ⟨k, hk, rfl, HB⟩ := hrel
      by_cases hkl : k < R.length
      · obtain ⟨h65, h90, hr1, hr2⟩ := hG R[k] (List.getElem_mem hkl)
        obtain ⟨hc0, hc1, hc2⟩ := hRA k hkl
        have hsz := size_sub (s := s) (a := R[k].1 + 2) hr2
        have hbt : ∀ j, j < R[k].2 - (R[k].1 + 2) → Pu.byt (sub s (R[k].1 + 2) R[k].2) j = Pu.byt s (R[k].1 + 2 + j) := fun j h => byt_sub hr2 h
        have HD := aside_of (bad_drop (s := s) hkl)
        generalize R[k] = r at *
        obtain ⟨t, ht⟩ : ∃ t, t = sub s (r.1 + 2) r.2 := ⟨_, rfl⟩
        rw [← ht] at hc1 hsz hbt
        clear ht
        obtain ⟨n, hnn⟩ : ∃ n, n = r.2 - (r.1 + 2) := ⟨_, rfl⟩
        rw [← hnn] at hsz hbt HD
        have hn50 : n ≤ 50 := by omega
        have hr50 : r.1 + 2 + n ≤ 50 := by omega
        obtain ⟨a, b⟩ := r
        simp only at hc0 hc1 hc2 hbt HD hr50
        clear h65 h90 hr1 hr2 hnn hc0
        have HBT := aside_of hbt
        clear hbt
        go_wp2_with fail
        go_loop [8] (fun jv => ∃ j : Nat, j ≤ n ∧ jv = .int .i64 j ∧ Hid (Pu.badIn s R n (a + 2) = Pu.badIn s R (n - j) (a + 2 + j))) (fun j => n - (intOf j).toNat)
        case atStart => exact ⟨0, Nat.zero_le _, rfl, rfl⟩
        case round =>
          obtain ⟨j, hj, rfl, HJ⟩ := hrel
          by_cases hjl : j < n
          · have hjt : j < t.size := by rw [hsz]; exact hjl
            have hby : t[j].toNat = Pu.byt s (a + 2 + j) := by rw [Pu.byt_eq hjt]; exact HBT.out j hjl
            obtain ⟨c, hc⟩ : ∃ c, Pu.byt s (a + 2 + j) = c := ⟨_, rfl⟩
            rw [hc] at hby
            have HN := aside_of (badIn_succ s R (n - (j + 1)) (a + 2 + j))
            rw [show n - (j + 1) + 1 = n - j by omega, hc] at HN
            by_cases hnm : Pu.nm c = true
            · by_cases hh : Pu.has s R c = true
              · have HH := hide hh
                have HX : Hid (Pu.badIn s R n (a + 2) = Pu.badIn s R (n - (j + 1)) (a + 2 + (j + 1))) := by
                  show _ = _
                  rw [HJ.out, HN.out, if_neg (fun h => by rw [hh] at h; cases h.2)]; rfl
                clear HJ HN hh hc HD HB
                go_wp2_with (first | (go_at_call 23; refine (isName_any _ _).mono ?_; rintro e w' ⟨rfl, rfl⟩) | (go_at_call 24; refine (has_at s R g cap c true _ HH hRA hn).mono ?_; rintro e w' ⟨rfl, rfl⟩))
                exact ⟨⟨j + 1, by omega, by go_num, HX⟩, by simp [intOf]; omega⟩
              · have hh0 : Pu.has s R c = false := by simpa using hh
                have HH := hide hh0
                have HX : Hid (Pu.bad s R R = some (a + 2 + j)) := by
                  show _ = _
                  rw [HB.out, HD.out, HJ.out, HN.out, if_pos ⟨hnm, hh0⟩]
                clear HJ HN hh hh0 hc HD HB
                go_wp2_with (first | (go_at_call 23; refine (isName_any _ _).mono ?_; rintro e w' ⟨rfl, rfl⟩) | (go_at_call 24; refine (has_at s R g cap c false _ HH hRA hn).mono ?_; rintro e w' ⟨rfl, rfl⟩))
                have HY : Hid (Pu.Chk s 3 (a + 2 + j)) := by
                  show Pu.Chk _ _ _
                  rw [HC2.out, HX.out]; exact ⟨rfl, rfl⟩
                go_quiet (fail)
                go_wp2
                go_ret2
                exact ⟨⟨3, a + 2 + j, by go_num, HY.out⟩, Go.below_drewN hb1 _⟩
            · have hnm0 : Pu.nm c = false := by simpa using hnm
              have HX : Hid (Pu.badIn s R n (a + 2) = Pu.badIn s R (n - (j + 1)) (a + 2 + (j + 1))) := by
                show _ = _
                rw [HJ.out, HN.out, if_neg (fun h => hnm h.1)]; rfl
              clear HJ HN hnm hc HD HB
              go_wp2_with (first | (go_at_call 23; refine (isName_any _ _).mono ?_; rintro e w' ⟨rfl, rfl⟩))
              exact ⟨⟨j + 1, by omega, by go_num, HX⟩, by simp [intOf]; omega⟩
          · have HX : Hid (Pu.bad s R R = Pu.bad s R (R.drop (k + 1))) := by
              show _ = _
              rw [HB.out, HD.out, HJ.out, show n - j = 0 by omega]; rfl
            clear HJ HD HB
            go_wp2_with fail
            exact ⟨⟨k + 1, by omega, by go_num, HX⟩, by simp [intOf]; omega⟩
      · have HX : Hid (Pu.bad s R R = none) := by
          show _ = _
          rw [HB.out, List.drop_eq_nil_of_le (by omega)]; rfl
        have HC3 : Aside (∀ a p F, Pu.Still s R F → (match Pu.barren s F R with | some k => a = 4 ∧ p = k | none => a = 0 ∧ p = 0) → Pu.Chk s a p) := by
          intro a p F h1 h2
          rw [HC2.out, HX.out]
          exact ⟨F, h1, h2⟩
        clear HB HX HC2
        go_wp2_with (go_at_call 25; refine (Fruitful_any s R g cap _ hRA hg2 hG hn hs).mono ?_; rintro e w2 ⟨hb2, gb, F, rfl, hgb, hS, hST⟩)
        have hRA2 := hRA.below hb2 hg2
        have HT : Aside (Pu.Still s R F) := hST
        have hb12 : Below w.heap.size w w2 := hb1.trans (hb2.mono hb1.size)
        have hSA := hS.at
        clear hRA hb2 hS hST hb1
        go_loop [11] (fun iv => ∃ k : Nat, k ≤ R.length ∧ iv = .int .i64 k ∧ Hid (Pu.barren s F R = Pu.barren s F (R.drop k))) (fun i => R.length - (intOf i).toNat)
        case atStart => exact ⟨0, Nat.zero_le _, rfl, rfl⟩
        case round =>
          obtain ⟨k, hk, rfl, HB⟩ := hrel
          by_cases hkl : k < R.length
          · obtain ⟨h65, h90, hr1, hr2⟩ := hG R[k] (List.getElem_mem hkl)
            obtain ⟨hc0, hc1, hc2⟩ := hRA2 k hkl
            have HD := aside_of (barren_drop (s := s) (F := F) hkl)
            generalize R[k] = r at *
            obtain ⟨a, b⟩ := r
            simp only at hc0 hc2 HD h65 h90 hr1 hr2
            have ha50 : a ≤ 50 := by omega
            generalize Pu.byt s a = c at *
            have hcell := hSA (c - 65) (by omega)
            rw [show 65 + (c - 65) = c by omega] at hcell
            clear hc1 hRA2 hSA hr1 hr2
            by_cases hF : F c = true
            · have HX : Hid (Pu.barren s F R = Pu.barren s F (R.drop (k + 1))) := by
                show _ = _
                rw [HB.out, HD.out, if_pos hF]
              clear HB HD
              go_wp2
              exact ⟨⟨k + 1, by omega, by go_num, HX⟩, by simp [intOf]; omega⟩
            · have hF0 : F c = false := by simpa using hF
              have HX : Hid (Pu.Chk s 4 a) := by
                refine HC3.out 4 a F HT.out ?_
                rw [HB.out, HD.out, if_neg hF]
                exact ⟨rfl, rfl⟩
              clear HB HD hF
              go_wp2
              go_quiet (fail)
              go_wp2
              go_ret2
              exact ⟨⟨4, a, rfl, HX.out⟩, Go.below_drewN hb12 _⟩
          · have HX : Hid (Pu.Chk s 0 0) := by
              refine HC3.out 0 0 F HT.out ?_
              rw [HB.out, List.drop_eq_nil_of_le (by omega)]
              exact ⟨rfl, rfl⟩
            clear HB hSA hRA2
            go_wp2
            go_ret2
            exact ⟨⟨0, 0, rfl, HX.out⟩, hb12⟩
end Go.Proofs.YthmbbiahnfpoeaaDoor
