import Derived.Test.YthmbbiahnfpoeaaDoorReadW
import Derived.Test.YthmbbiahnfpoeaaDoorNew
import Derived.WalkKit
import Derived.WalkSpells
import Derived.WalkSmall
import Derived.BigQuiet
import Derived.Deep.QuietTactic
import Derived.Deep.RegionWith
import Derived.Deep.LoopGhost
import Derived.Deep.RegionHeld3
import Derived.Deep.DeepCutAuto
namespace Go.Proofs.YthmbbiahnfpoeaaDoor
open Go.RowKit

/-- Five sentinels apart from one another. -/
structure Apart (x0 x1 x2 x3 x4 : Addr) : Prop where
  n10 : x1 ≠ x0
  n20 : x2 ≠ x0
  n21 : x2 ≠ x1
  n30 : x3 ≠ x0
  n31 : x3 ≠ x1
  n32 : x3 ≠ x2
  n40 : x4 ≠ x0
  n41 : x4 ≠ x1
  n42 : x4 ≠ x2
  n43 : x4 ≠ x3
theorem numberW_any (kd : ByteArray) (x0 x1 x2 x3 x4 : Addr) (a p : Nat) (ha : a = 0 ∨ a = 1 ∨ a = 5) (w : World) (h : Laid w x0 x1 x2 x3 x4) (n : Apart x0 x1 x2 x3 x4) :
    Calls Tryd.prog 21 #[errW kd x0 x4 a p] w fun e w' => e = .returned (.int .i64 a) ∧ Below w.heap.size w w' := by
  rcases ha with rfl | rfl | rfl
  · exact (number_nil x0 x1 x2 x3 x4 w h).mono (by rintro e w' ⟨he, rfl⟩; exact ⟨he, Below.refl _ _⟩)
  · exact number_long kd x0 x1 x2 x3 x4 w h
  · exact number_5 kd p x0 x1 x2 x3 x4 w h n.n40 n.n41 n.n42 n.n43
theorem placeW_any (kd : ByteArray) (x0 x1 x2 x3 x4 : Addr) (a p : Nat) (ha : a = 0 ∨ a = 1 ∨ a = 5) (hp : a = 0 ∨ a = 1 → p = 0) (w : World) (h : Laid w x0 x1 x2 x3 x4) :
    Calls Tryd.prog 22 #[errW kd x0 x4 a p] w fun e w' => e = .returned (.int .i64 p) ∧ Below w.heap.size w w' := by
  rcases ha with rfl | rfl | rfl
  · obtain rfl := hp (.inl rfl); exact place_nil w
  · obtain rfl := hp (.inr rfl); exact place_in kd x0 w h.c5
  · exact place_at kd p x4 w h.c5
theorem wrd_le {v : ByteArray} {a p : Nat} (h : Pu.Wrd v a p) : (a = 0 ∨ a = 1 ∨ a = 5) ∧ (a = 0 ∨ a = 1 → p = 0) := by
  unfold Pu.Wrd at h
  split at h
  · omega
  · split at h <;> omega
theorem errV_shape {kd : ByteArray} {x0 x1 x2 x3 : Addr} {a p : Nat} (ha : a ≠ 0) : ∃ y, errV kd x0 x1 x2 x3 a p = .iface 112 (.agg #[.string kd, y]) := by
  unfold errV
  rw [if_neg ha]
  split
  · exact ⟨_, rfl⟩
  · exact ⟨_, rfl⟩
theorem errW_shape {kd : ByteArray} {x0 x4 : Addr} {a p : Nat} (ha : a ≠ 0) : ∃ y, errW kd x0 x4 a p = .iface 112 (.agg #[.string kd, y]) := by
  unfold errW
  rw [if_neg ha]
  split
  · exact ⟨_, rfl⟩
  · exact ⟨_, rfl⟩

/-- What read answers. -/
def RdAns (s v : ByteArray) (m : Nat) (x0 x1 x2 x3 x4 : Addr) (e : Ending) (w' : World) : Prop :=
  ∃ a p, Pu.Chk s a p ∧ ((a ≠ 0 ∧ e = .returned (.tuple #[.pointer none, errV kdG x0 x1 x2 x3 a p])) ∨ (a = 0 ∧ ∃ c d, Pu.Wrd v c d ∧
    ((c ≠ 0 ∧ e = .returned (.tuple #[.pointer none, errW kdW x0 x4 c d])) ∨
     (c = 0 ∧ v.size ≤ 24 ∧ (Pu.parse s 8 0).2.2 = true ∧ Pu.Closed s (Pu.rulesOf s) ∧ ∃ pb top base q g cap B, e = .returned (.tuple #[.pointer (some ⟨pb, 0, none⟩), .nilIface]) ∧ ProgAt w' pb top base q g cap B v s (Pu.rulesOf s) (Pu.dist s (Pu.rulesOf s) []) (Pu.lvl v s (Pu.rulesOf s) m)))))
theorem in_names {s : ByteArray} {R : List (Nat × Nat)} (hC : Pu.Closed s R) : ∀ r ∈ R, ∀ a, r.1 + 2 ≤ a → a < r.2 → Pu.nm (Pu.byt s a) = true → Pu.byt s a ∈ Pu.dist s R [] := fun r hr a h1 h2 h3 => mem_names (hC r hr a h1 h2 h3)
theorem names_90 {s : ByteArray} {R : List (Nat × Nat)} (hG : Pu.Good s R) : ∀ c ∈ Pu.dist s R [], 65 ≤ c ∧ c ≤ 90 := fun c hc => by
  rcases ((Pu.dist_spec s R [] List.nodup_nil).2.1 c).1 hc with h | h
  · cases h
  · simp only [Pu.has, List.any_eq_true, beq_iff_eq] at h
    obtain ⟨r, hr, rfl⟩ := h
    exact ⟨(hG r hr).1, (hG r hr).2.1⟩

set_option maxHeartbeats 1000000 in
theorem read_any (s v : ByteArray) (m : Nat) (x0 x1 x2 x3 x4 : Addr) (w : World) (h : Laid w x0 x1 x2 x3 x4) (hm : Pu.Cnt v s (Pu.rulesOf s) v.size (Pu.lvl v s (Pu.rulesOf s) m)) :
    Calls Tryd.prog 26 #[.string s, .string v] w fun e w' => Below w.heap.size w w' ∧ RdAns s v m x0 x1 x2 x3 x4 e w' := by
  have HL := hide (fun V (hb : Below w.heap.size w V) => h.below hb)
  have HR := hide (ReadGrammar_any s x0 x1 x2 x3 w h.snts)
  clear h
  go_enter Tryd.func26, Tryd.ntmps26
  go_wp2_with fail
  refine HR.out.mono ?_
  rintro e w1 ⟨hb1, a, p, vv, hC, rfl, h0⟩
  have HCK := aside_of hC
  have hL1 := HL.out _ hb1
  clear hC HR
  by_cases ha : a = 0
  · subst ha
    obtain ⟨hs50, hpr, hcl, q, g, cap, B, rfl, hgl, hBl, hgr⟩ := h0 rfl
    have hgd := Pu.parse_good s 8 0
    have hS := Pu.parse_signed s 8 0
    obtain ⟨R, hR⟩ : ∃ R, R = (Pu.parse s 8 0).1 := ⟨_, rfl⟩
    have hRr : Pu.rulesOf s = R := hR.symm
    rw [hRr] at hm
    rw [← hR] at hcl hgr hgd hS
    have HH := aside_of (And.intro hpr hcl)
    have HRW := hide (ReadWord_any v x0 x1 x2 x3 x4 w1 hL1)
    have HNEW : Hid (∀ V, Below w1.heap.size w1 V → v.size ≤ 24 → Calls Tryd.prog 43 #[.pointer (some ⟨q, 0, none⟩), .string v] V fun e w' => ∃ pb top base, e = .returned (.pointer (some ⟨pb, 0, none⟩)) ∧ ProgAt w' pb top base q g cap B v s R (Pu.dist s R []) (Pu.lvl v s R m) ∧ Below V.heap.size V w') := fun V hb hv =>
      New_any q g cap B v s R (Pu.dist s R []) m V hv hgd.1 hS hgd.2.1 (Pu.dist_spec s R [] List.nodup_nil).1 (Nat.le_trans (names_len s R) hgd.2.1) (names_90 hgd.1) (fun r hr => mem_names (Pu.has_of hr)) (in_names hcl) hm (hgr.grown (below_grown hb none) (by simp) (by simp) (by simp)) (Nat.lt_of_lt_of_le hgl hb.size) (Nat.lt_of_lt_of_le hBl hb.size)
    clear hgr hgd hS hcl hm hs50 hpr h0
    have e0 : errV kdG x0 x1 x2 x3 0 p = .nilIface := rfl
    rw [e0]
    go_wp2_with fail
    refine HRW.out.mono ?_
    rintro e w2 ⟨hb2, c, d, x, hW, rfl, hx⟩
    have HW := aside_of hW
    have hb12 := hb1.trans (hb2.mono hb1.size)
    clear hW HRW
    by_cases hc : c = 0
    · subst hc
      obtain ⟨rfl, hv⟩ := hx rfl
      have e1 : errW kdW x0 x4 0 d = .nilIface := rfl
      rw [e1]
      have HN2 := hide (HNEW.out w2 hb2 hv)
      clear HNEW hx
      go_wp2_with (go_at_call 43; refine HN2.out.mono ?_; rintro e w3 ⟨pb, top, base, rfl, hP, hb3⟩)
      go_ret2
      refine ⟨hb12.trans (hb3.mono hb12.size), ?_⟩
      unfold RdAns
      rw [hRr]
      exact ⟨0, p, HCK.out, .inr ⟨rfl, 0, d, HW.out, .inr ⟨rfl, hv, HH.out.1, HH.out.2, pb, top, base, q, g, cap, B, rfl, hP⟩⟩⟩
    · obtain ⟨y, hy⟩ := errW_shape (kd := kdW) (x0 := x0) (x4 := x4) (p := d) hc
      have HY := aside_of hy
      rw [hy]
      clear hy hx HNEW
      go_wp2_with fail
      go_ret2
      refine ⟨hb12, ?_⟩
      unfold RdAns
      exact ⟨0, p, HCK.out, .inr ⟨rfl, c, d, HW.out, .inl ⟨hc, by rw [HY.out]; rfl⟩⟩⟩
  · obtain ⟨y, hy⟩ := errV_shape (kd := kdG) (x0 := x0) (x1 := x1) (x2 := x2) (x3 := x3) (p := p) ha
    have HY := aside_of hy
    rw [hy]
    clear hy h0
    go_wp2_with fail
    go_ret2
    refine ⟨hb1, ?_⟩
    unfold RdAns
    exact ⟨a, p, HCK.out, .inl ⟨ha, by rw [HY.out]; rfl⟩⟩
end Go.Proofs.YthmbbiahnfpoeaaDoor
