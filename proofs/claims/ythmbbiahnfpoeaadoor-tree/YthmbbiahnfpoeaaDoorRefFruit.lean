import Derived.Test.YthmbbiahnfpoeaaDoorProg
import Derived.Test.YthmbbiahnfpoeaaDoorRefSets
import Derived.WalkKit
import Derived.WalkSpells
import Derived.BigQuiet
import Derived.Deep.QuietTactic
import Derived.Deep.RegionWith
import Derived.Deep.LoopGhost
namespace Go.Proofs.YthmbbiahnfpoeaaDoor
open Go.RowKit

namespace Pu
def cnt (F : Nat → Bool) : Nat := ((List.range 26).filter fun k => !F (65 + k)).length
theorem filter_len {α : Type} (p q : α → Bool) : ∀ l : List α, (∀ x ∈ l, p x = true → q x = true) → (l.filter p).length ≤ (l.filter q).length
  | [], _ => Nat.le_refl _
  | a :: l, h => by
    have ih := filter_len p q l (fun x hx => h x (List.mem_cons_of_mem a hx))
    have ha := h a List.mem_cons_self
    rw [List.filter_cons, List.filter_cons]
    cases hp : p a with
    | true => rw [if_pos rfl, if_pos (ha hp)]; simpa using ih
    | false =>
      rw [if_neg (by decide)]
      cases q a with
      | true => rw [if_pos rfl]; simp; omega
      | false => rw [if_neg (by decide)]; exact ih
theorem filter_len_lt {α : Type} (p q : α → Bool) : ∀ l : List α, (∀ x ∈ l, p x = true → q x = true) → (∃ x ∈ l, p x = false ∧ q x = true) → (l.filter p).length < (l.filter q).length
  | [], _, ⟨_, h, _⟩ => by cases h
  | a :: l, h, ⟨x, hx, hpx, hqx⟩ => by
    have hh := fun y hy => h y (List.mem_cons_of_mem a hy)
    rw [List.filter_cons, List.filter_cons]
    rcases List.mem_cons.1 hx with rfl | hx
    · rw [hpx, hqx, if_neg (by decide), if_pos rfl]
      have := filter_len p q l hh
      simp; omega
    · have ih := filter_len_lt p q l hh ⟨x, hx, hpx, hqx⟩
      have ha := h a List.mem_cons_self
      cases hp : p a with
      | true => rw [if_pos rfl, if_pos (ha hp)]; simpa using ih
      | false =>
        rw [if_neg (by decide)]
        cases q a with
        | true => rw [if_pos rfl]; simp; omega
        | false => rw [if_neg (by decide)]; exact ih
theorem cnt_add {F : Nat → Bool} {c : Nat} (h1 : 65 ≤ c) (h2 : c ≤ 90) (hF : F c = false) : cnt (add F c) < cnt F := by
  refine filter_len_lt _ _ _ ?_ ⟨c - 65, List.mem_range.2 (by omega), ?_, ?_⟩
  · intro x _ hx
    simp only [add] at hx
    split at hx
    · simp at hx
    · exact hx
  · simp [add, show 65 + (c - 65) = c by omega]
  · rw [show 65 + (c - 65) = c by omega, hF]; rfl
/-- Rules as they are read. -/
def Good (s : ByteArray) (R : List (Nat × Nat)) : Prop := ∀ r ∈ R, 65 ≤ byt s r.1 ∧ byt s r.1 ≤ 90 ∧ r.1 + 2 ≤ r.2 ∧ r.2 ≤ s.size
theorem grows_false {s : ByteArray} {F : Nat → Bool} {r : Nat × Nat} (h : grows s F r = true) : F (byt s r.1) = false := by
  simp only [grows, Bool.and_eq_true, Bool.not_eq_true'] at h; exact h.2
theorem sweep_cnt (s : ByteArray) : ∀ (l : List (Nat × Nat)) (F : Nat → Bool) (b : Bool), Good s l →
    (sweep s l (F, b)).2 = b ∧ (sweep s l (F, b)).1 = F ∨ (sweep s l (F, b)).2 = true ∧ cnt (sweep s l (F, b)).1 < cnt F
  | [], _, _, _ => .inl ⟨rfl, rfl⟩
  | r :: l, F, b, h => by
    have hl : Good s l := fun x hx => h x (List.mem_cons_of_mem r hx)
    have hr := h r List.mem_cons_self
    show (sweep s l (if grows s F r = true then (add F (byt s r.1), true) else (F, b))).2 = b ∧ _ ∨ _
    by_cases hg : grows s F r = true
    · have hc := cnt_add hr.1 hr.2.1 (grows_false hg)
      have e : sweep s (r :: l) (F, b) = sweep s l (add F (byt s r.1), true) := by simp [sweep, hg]
      rw [if_pos hg, e]
      rcases sweep_cnt s l (add F (byt s r.1)) true hl with ⟨h1, h2⟩ | ⟨h1, h2⟩
      · exact .inr ⟨h1, by rw [h2]; exact hc⟩
      · exact .inr ⟨h1, by omega⟩
    · have e : sweep s (r :: l) (F, b) = sweep s l (F, b) := by simp [sweep, hg]
      rw [if_neg hg, e]
      exact sweep_cnt s l F b hl
theorem ruleAt_good {s : ByteArray} {i : Nat} (h : (ruleAt s i).2 = true) : 65 ≤ byt s i ∧ byt s i ≤ 90 ∧ i + 2 ≤ (ruleAt s i).1 ∧ (ruleAt s i).1 ≤ s.size := by
  unfold ruleAt at h ⊢
  split
  · rename_i h1
    rw [if_pos h1] at h
    split
    · rename_i h2
      have := signs_le s 3 (i + 2)
      have := signs_size s 3 (i + 2) (by omega)
      have := h1.2
      simp only [nm, Bool.and_eq_true, decide_eq_true_eq] at this
      exact ⟨this.1, this.2, by show i + 2 ≤ signs s 3 (i + 2); omega, by show signs s 3 (i + 2) ≤ s.size; omega⟩
    · rename_i h2
      rw [if_neg h2] at h; exact absurd h (by simp)
  · rename_i h1
    rw [if_neg h1] at h; exact absurd h (by simp)
theorem parse_good (s : ByteArray) : ∀ k i, Good s (parse s k i).1 ∧ (parse s k i).1.length ≤ k ∧ ((parse s k i).2.2 = true → (parse s k i).1 ≠ [])
  | 0, i => ⟨fun _ h => (List.not_mem_nil h).elim, Nat.le_refl _, fun h => absurd h (by simp [parse])⟩
  | k + 1, i => by
    have ih := parse_good s k ((ruleAt s i).1 + 1)
    simp only [parse]
    split
    · rename_i h1
      have hg := ruleAt_good h1
      split
      · exact ⟨fun r hr => by simp at hr; subst hr; exact hg, by simp, fun _ => by simp⟩
      · split
        · refine ⟨fun r hr => ?_, ?_, fun _ => by simp⟩
          · rcases List.mem_cons.1 hr with rfl | hr
            · exact hg
            · exact ih.1 r hr
          · simp; exact ih.2.1
        · exact ⟨fun _ h => (List.not_mem_nil h).elim, by simp, fun h => absurd h (by simp)⟩
    · exact ⟨fun _ h => (List.not_mem_nil h).elim, by simp, fun h => absurd h (by simp)⟩
end Pu

/-- The block of a set: 26 bools. -/
def SetBlk (w : World) (g : Nat) (F : Nat → Bool) : Prop := ∃ cs : Array Value, w.heap[g]? = some (.cells cs 4 (0, 0)) ∧ ∀ k, k < 26 → cs[k]? = some (.bool (F (65 + k)))
theorem SetBlk.at {w : World} {g : Nat} {F : Nat → Bool} (h : SetBlk w g F) : SetAt w g F := by
  obtain ⟨cs, h1, h2⟩ := h
  intro k hk
  simp [World.cell?, h1, h2 k hk]

theorem Tryd.info4 : (Tryd.prog.info? 4).map (fun i => (i.zero, i.size, i.bytes)) = some (some (.bool false), 1, 1) := by kernel_rfl
theorem setBlk_made {w : World} {B g : Nat} (h : w.ownsRow B 4 1 (.slice (some ⟨g, 0, none⟩) 26 26) 26 (madeCells (Value.bool false).cells (26 * 1)).toList) : SetBlk w g (fun _ => false) := by
  obtain ⟨_, ⟨h0, _⟩ | ⟨g', cap, cur, hv, _, hh, _, _, hsz, htake⟩⟩ := h
  · cases h0
  · simp only [Value.slice.injEq, Option.some.injEq, Addr.mk.injEq, and_true, true_and] at hv
    obtain ⟨rfl, rfl⟩ := hv
    refine ⟨cur, hh, fun k hk => ?_⟩
    have e : (madeCells (Value.bool false).cells (26 * 1)).toList = List.replicate 26 (.bool false) := by kernel_rfl
    have : (cur.toList.take (26 * 1))[k]? = some (.bool false) := by rw [htake, e, List.getElem?_replicate, if_pos hk]
    rw [List.getElem?_take, if_pos (by omega)] at this
    simpa using this
theorem SetBlk.set {w : World} {g : Nat} {F : Nat → Bool} (h : SetBlk w g F) {c : Nat} (h1 : 65 ≤ c) (h2 : c ≤ 90) : SetBlk (w.setCell ⟨g, c - 65, none⟩ (.bool true)) g (Pu.add F c) := by
  obtain ⟨cs, hh, hc⟩ := h
  refine ⟨cs.setIfInBounds (c - 65) (.bool true), ?_, fun k hk => ?_⟩
  · show (w.heap.modify g _)[g]? = _
    rw [Array.getElem?_modify, if_pos rfl, hh]; rfl
  · by_cases e : c - 65 = k
    · subst e
      have hs : c - 65 < cs.size := by
        rcases Nat.lt_or_ge (c - 65) cs.size with h | h
        · exact h
        · have := hc _ hk; rw [Array.getElem?_eq_none h] at this; cases this
      rw [Array.getElem?_setIfInBounds_self_of_lt hs]
      simp [Pu.add, show 65 + (c - 65) = c by omega]
    · rw [Array.getElem?_setIfInBounds_ne e, hc k hk]
      simp [Pu.add, show ¬ 65 + k = c by omega]
theorem SetBlk.frozen {w : World} {g : Nat} {F : Nat → Bool} (h : SetBlk w g F) (k : Nat) : w.frozen? ⟨g, k, none⟩ = false := by
  obtain ⟨cs, hh, hc⟩ := h
  simp [World.frozen?, hh]

theorem aside_of {p : Prop} (h : p) : Aside p := h
theorem all_rule (s : ByteArray) (F : Nat → Bool) (r : Nat × Nat) (g : Nat) (w : World) (b : Bool) (hb : Hid (Pu.ripe s F r = b)) (hF : SetBlk w g F) (hs : s.size ≤ 50) (hr : r.2 ≤ s.size) :
    Calls Tryd.prog 41 #[.string (sub s (r.1 + 2) r.2), .slice (some ⟨g, 0, none⟩) 26 26] w fun e w' => e = .returned (.bool b) ∧ w' = w := by
  have h := all_any (sub s (r.1 + 2) r.2) F g w hF.at (by rw [size_sub hr]; omega)
  rw [size_sub hr, allIn_sub hr (r.2 - (r.1 + 2)) 0 (Nat.add_zero _)] at h
  rw [← hb.out]
  exact h
theorem sweep_drop {s : ByteArray} {R : List (Nat × Nat)} {k : Nat} (h : k < R.length) (G : Nat → Bool) (b : Bool) :
    Pu.sweep s (R.drop k) (G, b) = Pu.sweep s (R.drop (k + 1)) (if Pu.grows s G R[k] = true then (Pu.add G (Pu.byt s R[k].1), true) else (G, b)) := by
  rw [List.drop_eq_getElem_cons h]; rfl

set_option maxRecDepth 100000 in
set_option maxHeartbeats 1000000 in
theorem Fruitful_any (s : ByteArray) (R : List (Nat × Nat)) (g cap : Nat) (w : World) (hR : RulesAt w g s R) (hg : g < w.heap.size) (hG : Pu.Good s R) (hn : R.length ≤ 8) (hs : s.size ≤ 50) :
    Calls Tryd.prog 25 #[.slice (some ⟨g, 0, none⟩) R.length cap] w fun e w' => Below w.heap.size w w' ∧ ∃ gb F, e = .returned (.slice (some ⟨gb, 0, none⟩) 26 26) ∧ w.heap.size ≤ gb ∧ SetBlk w' gb F ∧ Pu.Still s R F := by
  obtain ⟨i0, hi, hz0, hz1, hz2⟩ := info_parts Tryd.info4
  go_enter Tryd.func25, Tryd.ntmps25
  go_wp2_with (at_make; refine wpList_make_full _ rfl _ _ 56 rfl w.heap.size 4 i0 (.bool false) 1 Tryd.underlying56 hi hz0 hz1 _ _ 26 26 26 rfl rfl rfl rfl (by rw [hz2]; decide) (by decide) (Nat.le_refl _) ?_; intro w1 hown hgr)
  have hS0 := setBlk_made hown
  have hb0 : Below w.heap.size w w1 := Below.grown (Below.refl _ _) hgr (Nat.le_refl _) (fun _ h => by cases h)
  have hlt0 : w.heap.size < w1.heap.size := (hown.lt w.heap.size rfl).2
  clear hown hgr
  go_loopg [4] (2 * 26 + 1) (fun n ag wr => ∃ (m : Nat) (F : Nat → Bool) (b : Bool), ag = .bool b ∧ SetBlk wr w.heap.size F ∧ Below w.heap.size w wr ∧ w.heap.size < wr.heap.size ∧ F = Pu.sweeps s R m ∧ (b = false → Pu.sweep s R (F, false) = (F, false)) ∧ 2 * Pu.cnt F + b.toNat ≤ n)
  case atStart => exact ⟨0, _, true, rfl, hS0, hb0, hlt0, rfl, (fun h => by cases h), by decide⟩
  case round =>
    clear hS0 hb0 hlt0
    obtain ⟨m, F, b, rfl, hS, hbw, hlt, hF, hst, hcn⟩ := hrel
    cases b with
    | false =>
      have hst' := hst rfl
      have A : Aside (F = Pu.sweeps s R m ∧ Pu.sweep s R (F, false) = (F, false)) := ⟨hF, hst'⟩
      clear hst hst' hF
      go_wp2
      go_ret
      exact ⟨hbw, _, F, rfl, Nat.le_refl _, hS, m, A.out.1, A.out.2⟩
    | true =>
      have A : Aside (F = Pu.sweeps s R m) := hF
      clear hst hF
      have hcn' : 2 * Pu.cnt F + 1 ≤ gk := hcn
      clear hcn
      go_wp2
      go_loopg [4, 5] R.length (fun n ag iv wi => ∃ (k : Nat) (G : Nat → Bool) (b : Bool), ag = .bool b ∧ iv = .int .i64 k ∧ k ≤ R.length ∧ n = R.length - k ∧ SetBlk wi w.heap.size G ∧ Below w.heap.size w wi ∧ w.heap.size < wi.heap.size ∧ Pu.sweep s R (F, false) = Pu.sweep s (R.drop k) (G, b))
      case atStart => exact ⟨0, F, false, rfl, rfl, Nat.zero_le _, rfl, hS, hbw, hlt, rfl⟩
      case round =>
        clear hS hbw hlt
        obtain ⟨k, G, b, rfl, rfl, hk, rfl, hS, hbw, hlt, hsw⟩ := hrel
        have HS : Aside (Pu.sweep s R (F, false) = Pu.sweep s (R.drop k) (G, b)) := hsw
        clear hsw
        by_cases hkl : k < R.length
        · have hgood := hG R[k] (List.getElem_mem hkl)
          obtain ⟨h65, h90, hr1, hr2⟩ := hgood
          obtain ⟨hc0, hc1, _⟩ := (hR.below hbw hg) k hkl
          have HD := aside_of (sweep_drop (s := s) hkl G b)
          obtain ⟨c, hc⟩ : ∃ c, c = Pu.byt s R[k].1 := ⟨_, rfl⟩
          have h65' : 65 ≤ c := by omega
          have h90' : c ≤ 90 := by omega
          have hcell := hS.at (c - 65) (by omega)
          rw [show 65 + (c - 65) = c by omega] at hcell
          have hfz := hS.frozen (c - 65)
          by_cases hrp : Pu.ripe s G R[k] = true
          · have HRP : Hid (Pu.ripe s G R[k] = true) := hrp
            by_cases hGc : G c = true
            · have HX : Aside (Pu.sweep s R (F, false) = Pu.sweep s (R.drop (k + 1)) (G, b)) := by
                show _ = _
                rw [HS.out, HD.out, if_neg (by simp [Pu.grows, ← hc, hGc])]
              clear hR hrp HS HD
              rw [← hc] at hc0 h65 h90
              clear hc
              go_wp2_with (go_at_call 41; refine (all_rule s G R[k] w.heap.size _ true HRP hS hs hr2).mono ?_; rintro e w' ⟨rfl, rfl⟩)
              go_roundg (R.length - (k + 1))
              case measure => omega
              case rel => exact ⟨k + 1, G, b, rfl, by go_num, by omega, rfl, hS, hbw, hlt, HX.out⟩
            · have hGf : G c = false := by simpa using hGc
              have HX : Aside (Pu.sweep s R (F, false) = Pu.sweep s (R.drop (k + 1)) (Pu.add G c, true)) := by
                show _ = _
                rw [HS.out, HD.out, if_pos (by simp [Pu.grows, hrp, ← hc, hGf]), hc]
              have hS2 := hS.set h65' h90'
              clear hR hrp HS HD hGc
              rw [← hc] at hc0 h65 h90
              clear hc
              go_wp2_with (go_at_call 41; refine (all_rule s G R[k] w.heap.size _ true HRP hS hs hr2).mono ?_; rintro e w' ⟨rfl, rfl⟩)
              go_roundg (R.length - (k + 1))
              case measure => omega
              case rel => exact ⟨k + 1, Pu.add G c, true, rfl, by go_num, by omega, rfl, hS2, hbw.setCell (Nat.le_refl _) _, by simpa using hlt, HX.out⟩
          · have HRP : Hid (Pu.ripe s G R[k] = false) := by show _ = _; simpa using hrp
            have HX : Aside (Pu.sweep s R (F, false) = Pu.sweep s (R.drop (k + 1)) (G, b)) := by
              show _ = _
              rw [HS.out, HD.out, if_neg (by simp [Pu.grows, hrp])]
            clear hR hrp HS HD
            rw [← hc] at hc0 h65 h90
            clear hc
            go_wp2_with (go_at_call 41; refine (all_rule s G R[k] w.heap.size _ false HRP hS hs hr2).mono ?_; rintro e w' ⟨rfl, rfl⟩)
            go_roundg (R.length - (k + 1))
            case measure => omega
            case rel => exact ⟨k + 1, G, b, rfl, by go_num, by omega, rfl, hS, hbw, hlt, HX.out⟩
        · have hd : R.drop k = [] := List.drop_eq_nil_of_le (by omega)
          have hsw := HS.out
          rw [hd] at hsw
          have hsw' : Pu.sweep s R (F, false) = (G, b) := hsw
          have hcnt := Pu.sweep_cnt s R F false hG
          rw [hsw'] at hcnt
          have HW : Aside (Pu.sweep s R (F, false) = (G, b) ∧ (b = false ∧ G = F ∨ b = true ∧ Pu.cnt G < Pu.cnt F)) := ⟨hsw', hcnt⟩
          clear hsw hsw' hcnt HS hd
          go_wp2
          go_roundg (2 * Pu.cnt G + b.toNat)
          case measure =>
            rcases HW.out.2 with ⟨rfl, rfl⟩ | ⟨rfl, h⟩
            · simp; omega
            · simp; omega
          case rel =>
            obtain ⟨hsw, hcnt⟩ := HW.out
            refine ⟨m + 1, G, b, rfl, hS, hbw, hlt, ?_, ?_, Nat.le_refl _⟩
            · show G = (Pu.sweep s R (Pu.sweeps s R m, false)).1
              rw [← A.out, hsw]
            · rintro rfl
              rcases hcnt with ⟨_, rfl⟩ | ⟨h, _⟩
              · exact hsw
              · cases h
end Go.Proofs.YthmbbiahnfpoeaaDoor
