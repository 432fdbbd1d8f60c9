import Derived.Test.YthmbbiahnfpoeaaDoorErrIs
import Derived.Test.YthmbbiahnfpoeaaDoorReadG
import Derived.Test.YthmbbiahnfpoeaaDoorErrAs
import Derived.Test.YthmbbiahnfpoeaaDoorErrAsNo
import Derived.WalkKit
import Derived.WalkSpells
import Derived.WalkSmall
import Derived.Deep.LoopGhost
namespace Go.Proofs.YthmbbiahnfpoeaaDoor
open Go.RowKit

/-- The package-level variables as the program's text lays them: the sentinels (five of them by name), and the handle of the type 'error'. -/
structure Laid (w : World) (x0 x1 x2 x3 x4 : Addr) : Prop where
  c0 : w.cell? ⟨0, 0, none⟩ = some (.iface 165 (.pointer (some x0)))
  c1 : w.cell? ⟨1, 0, none⟩ = some (.iface 165 (.pointer (some x1)))
  c2 : w.cell? ⟨2, 0, none⟩ = some (.iface 165 (.pointer (some x2)))
  c3 : w.cell? ⟨3, 0, none⟩ = some (.iface 165 (.pointer (some x3)))
  c4 : w.cell? ⟨4, 0, none⟩ = some (.iface 165 (.pointer (some x4)))
  c5 : w.cell? ⟨14, 0, none⟩ = some (.iface 147 (.agg #[.pointer (some ⟨15, 49, none⟩)]))
  s0 : Snt w x0
  s1 : Snt w x1
  s2 : Snt w x2
  s3 : Snt w x3
  s4 : Snt w x4
  more : ∀ k, 5 ≤ k → k < 14 → ∃ x : Addr, w.cell? ⟨k, 0, none⟩ = some (.iface 165 (.pointer (some x)))
theorem Laid.below {w w' : World} {x0 x1 x2 x3 x4 : Addr} (h : Laid w x0 x1 x2 x3 x4) (hb : Below w.heap.size w w') : Laid w' x0 x1 x2 x3 x4 :=
  ⟨(below_grown hb none).cell h.c0 (by simp), (below_grown hb none).cell h.c1 (by simp), (below_grown hb none).cell h.c2 (by simp), (below_grown hb none).cell h.c3 (by simp), (below_grown hb none).cell h.c4 (by simp), (below_grown hb none).cell h.c5 (by simp),
   h.s0.below hb, h.s1.below hb, h.s2.below hb, h.s3.below hb, h.s4.below hb,
   fun k a b => let ⟨x, hx⟩ := h.more k a b; ⟨x, (below_grown hb none).cell hx (by simp)⟩⟩
theorem Laid.snts {w : World} {x0 x1 x2 x3 x4 : Addr} (h : Laid w x0 x1 x2 x3 x4) : Snts w x0 x1 x2 x3 := ⟨h.c0, h.c1, h.c2, h.c3⟩

/-- Is it that sentinel? As a number of the error's kind. -/
theorem number_nil (x0 x1 x2 x3 x4 : Addr) (w : World) (h : Laid w x0 x1 x2 x3 x4) :
    Calls Tryd.prog 21 #[.nilIface] w fun e w' => e = .returned (.int .i64 0) ∧ w' = w := by
  obtain ⟨c0, c1, c2, c3, c4, _, _, _, _, _, _, more⟩ := h
  obtain ⟨y5, d5⟩ := more 5 (by omega) (by omega)
  obtain ⟨y6, d6⟩ := more 6 (by omega) (by omega)
  obtain ⟨y7, d7⟩ := more 7 (by omega) (by omega)
  obtain ⟨y8, d8⟩ := more 8 (by omega) (by omega)
  obtain ⟨y9, d9⟩ := more 9 (by omega) (by omega)
  obtain ⟨y10, d10⟩ := more 10 (by omega) (by omega)
  obtain ⟨y11, d11⟩ := more 11 (by omega) (by omega)
  obtain ⟨y12, d12⟩ := more 12 (by omega) (by omega)
  obtain ⟨y13, d13⟩ := more 13 (by omega) (by omega)
  clear more
  go_enter Tryd.func21, Tryd.ntmps21
  go_wp2_with (go_at_call 39; refine (Is_nil _ _).mono ?_; rintro e w' ⟨rfl, rfl⟩)
  go_ret
  exact ⟨rfl, rfl⟩
set_option maxHeartbeats 1000000 in
theorem number_long (kd : ByteArray) (x0 x1 x2 x3 x4 : Addr) (w : World) (h : Laid w x0 x1 x2 x3 x4) :
    Calls Tryd.prog 21 #[inV kd (.iface 165 (.pointer (some x0)))] w fun e w' => e = .returned (.int .i64 1) ∧ Below w.heap.size w w' := by
  have c0 := h.c0
  have HI := hide (Is_in kd x0 x0 w h.s0 h.s0)
  clear h
  go_enter Tryd.func21, Tryd.ntmps21
  go_wp2_with (go_at_call 39; refine HI.out.mono ?_; rintro e w1 ⟨rfl, hb1⟩; rw [decide_eq_true rfl])
  go_ret
  exact ⟨rfl, hb1⟩
set_option maxHeartbeats 1000000 in
theorem number_2 (kd : ByteArray) (p : Nat) (x0 x1 x2 x3 x4 : Addr) (w : World) (h : Laid w x0 x1 x2 x3 x4) (n0 : x1 ≠ x0) :
    Calls Tryd.prog 21 #[inV kd (atV p (.iface 165 (.pointer (some x1))))] w fun e w' => e = .returned (.int .i64 2) ∧ Below w.heap.size w w' := by
  have HL := hide (fun V (hb : Below w.heap.size w V) => h.below hb)
  clear h
  go_enter Tryd.func21, Tryd.ntmps21
  have hb0 : Below w.heap.size w w := Below.refl _ _
  have hL0 := HL.out _ hb0
  have d0 := hL0.c0
  go_wp2_with fail
  refine (Is_at kd p x1 x0 _ hL0.s1 hL0.s0).mono ?_
  rintro e w1 ⟨rfl, hq1⟩
  rw [decide_eq_false n0]
  have hb1 := hb0.trans (hq1.mono hb0.size)
  have hL1 := HL.out _ hb1
  have d1 := hL1.c1
  go_wp2_with fail
  refine (Is_at kd p x1 x1 _ hL1.s1 hL1.s1).mono ?_
  rintro e w2 ⟨rfl, hq2⟩
  rw [decide_eq_true rfl]
  have hb2 := hb1.trans (hq2.mono hb1.size)
  have hL2 := HL.out _ hb2
  go_wp2_with fail
  go_ret
  exact ⟨rfl, hb2⟩
set_option maxHeartbeats 1000000 in
theorem number_3 (kd : ByteArray) (p : Nat) (x0 x1 x2 x3 x4 : Addr) (w : World) (h : Laid w x0 x1 x2 x3 x4) (n0 : x2 ≠ x0) (n1 : x2 ≠ x1) :
    Calls Tryd.prog 21 #[inV kd (atV p (.iface 165 (.pointer (some x2))))] w fun e w' => e = .returned (.int .i64 3) ∧ Below w.heap.size w w' := by
  have HL := hide (fun V (hb : Below w.heap.size w V) => h.below hb)
  clear h
  go_enter Tryd.func21, Tryd.ntmps21
  have hb0 : Below w.heap.size w w := Below.refl _ _
  have hL0 := HL.out _ hb0
  have d0 := hL0.c0
  go_wp2_with fail
  refine (Is_at kd p x2 x0 _ hL0.s2 hL0.s0).mono ?_
  rintro e w1 ⟨rfl, hq1⟩
  rw [decide_eq_false n0]
  have hb1 := hb0.trans (hq1.mono hb0.size)
  have hL1 := HL.out _ hb1
  have d1 := hL1.c1
  go_wp2_with fail
  refine (Is_at kd p x2 x1 _ hL1.s2 hL1.s1).mono ?_
  rintro e w2 ⟨rfl, hq2⟩
  rw [decide_eq_false n1]
  have hb2 := hb1.trans (hq2.mono hb1.size)
  have hL2 := HL.out _ hb2
  have d2 := hL2.c2
  go_wp2_with fail
  refine (Is_at kd p x2 x2 _ hL2.s2 hL2.s2).mono ?_
  rintro e w3 ⟨rfl, hq3⟩
  rw [decide_eq_true rfl]
  have hb3 := hb2.trans (hq3.mono hb2.size)
  have hL3 := HL.out _ hb3
  go_wp2_with fail
  go_ret
  exact ⟨rfl, hb3⟩
set_option maxHeartbeats 1000000 in
theorem number_4 (kd : ByteArray) (p : Nat) (x0 x1 x2 x3 x4 : Addr) (w : World) (h : Laid w x0 x1 x2 x3 x4) (n0 : x3 ≠ x0) (n1 : x3 ≠ x1) (n2 : x3 ≠ x2) :
    Calls Tryd.prog 21 #[inV kd (atV p (.iface 165 (.pointer (some x3))))] w fun e w' => e = .returned (.int .i64 4) ∧ Below w.heap.size w w' := by
  have HL := hide (fun V (hb : Below w.heap.size w V) => h.below hb)
  clear h
  go_enter Tryd.func21, Tryd.ntmps21
  have hb0 : Below w.heap.size w w := Below.refl _ _
  have hL0 := HL.out _ hb0
  have d0 := hL0.c0
  go_wp2_with fail
  refine (Is_at kd p x3 x0 _ hL0.s3 hL0.s0).mono ?_
  rintro e w1 ⟨rfl, hq1⟩
  rw [decide_eq_false n0]
  have hb1 := hb0.trans (hq1.mono hb0.size)
  have hL1 := HL.out _ hb1
  have d1 := hL1.c1
  go_wp2_with fail
  refine (Is_at kd p x3 x1 _ hL1.s3 hL1.s1).mono ?_
  rintro e w2 ⟨rfl, hq2⟩
  rw [decide_eq_false n1]
  have hb2 := hb1.trans (hq2.mono hb1.size)
  have hL2 := HL.out _ hb2
  have d2 := hL2.c2
  go_wp2_with fail
  refine (Is_at kd p x3 x2 _ hL2.s3 hL2.s2).mono ?_
  rintro e w3 ⟨rfl, hq3⟩
  rw [decide_eq_false n2]
  have hb3 := hb2.trans (hq3.mono hb2.size)
  have hL3 := HL.out _ hb3
  have d3 := hL3.c3
  go_wp2_with fail
  refine (Is_at kd p x3 x3 _ hL3.s3 hL3.s3).mono ?_
  rintro e w4 ⟨rfl, hq4⟩
  rw [decide_eq_true rfl]
  have hb4 := hb3.trans (hq4.mono hb3.size)
  have hL4 := HL.out _ hb4
  go_wp2_with fail
  go_ret
  exact ⟨rfl, hb4⟩
set_option maxHeartbeats 1000000 in
theorem number_5 (kd : ByteArray) (p : Nat) (x0 x1 x2 x3 x4 : Addr) (w : World) (h : Laid w x0 x1 x2 x3 x4) (n0 : x4 ≠ x0) (n1 : x4 ≠ x1) (n2 : x4 ≠ x2) (n3 : x4 ≠ x3) :
    Calls Tryd.prog 21 #[inV kd (atV p (.iface 165 (.pointer (some x4))))] w fun e w' => e = .returned (.int .i64 5) ∧ Below w.heap.size w w' := by
  have HL := hide (fun V (hb : Below w.heap.size w V) => h.below hb)
  clear h
  go_enter Tryd.func21, Tryd.ntmps21
  have hb0 : Below w.heap.size w w := Below.refl _ _
  have hL0 := HL.out _ hb0
  have d0 := hL0.c0
  go_wp2_with fail
  refine (Is_at kd p x4 x0 _ hL0.s4 hL0.s0).mono ?_
  rintro e w1 ⟨rfl, hq1⟩
  rw [decide_eq_false n0]
  have hb1 := hb0.trans (hq1.mono hb0.size)
  have hL1 := HL.out _ hb1
  have d1 := hL1.c1
  go_wp2_with fail
  refine (Is_at kd p x4 x1 _ hL1.s4 hL1.s1).mono ?_
  rintro e w2 ⟨rfl, hq2⟩
  rw [decide_eq_false n1]
  have hb2 := hb1.trans (hq2.mono hb1.size)
  have hL2 := HL.out _ hb2
  have d2 := hL2.c2
  go_wp2_with fail
  refine (Is_at kd p x4 x2 _ hL2.s4 hL2.s2).mono ?_
  rintro e w3 ⟨rfl, hq3⟩
  rw [decide_eq_false n2]
  have hb3 := hb2.trans (hq3.mono hb2.size)
  have hL3 := HL.out _ hb3
  have d3 := hL3.c3
  go_wp2_with fail
  refine (Is_at kd p x4 x3 _ hL3.s4 hL3.s3).mono ?_
  rintro e w4 ⟨rfl, hq4⟩
  rw [decide_eq_false n3]
  have hb4 := hb3.trans (hq4.mono hb3.size)
  have hL4 := HL.out _ hb4
  have d4 := hL4.c4
  go_wp2_with fail
  refine (Is_at kd p x4 x4 _ hL4.s4 hL4.s4).mono ?_
  rintro e w5 ⟨rfl, hq5⟩
  rw [decide_eq_true rfl]
  have hb5 := hb4.trans (hq5.mono hb4.size)
  have hL5 := HL.out _ hb5
  go_wp2_with fail
  go_ret
  exact ⟨rfl, hb5⟩

theorem froz_new (w : World) (c : Array Value) (t : TypeId) (o : Nat) : (w.alloc (.cells c t)).frozen? ⟨w.heap.size, o, none⟩ = false := by
  unfold World.frozen?
  rw [show (w.alloc (.cells c t)).heap[(⟨w.heap.size, o, none⟩ : Addr).block]? = some (.cells c t (0, 0)) from heap_alloc_new w _]
  simp
theorem place_nil (w : World) : Calls Tryd.prog 22 #[.nilIface] w fun e w' => e = .returned (.int .i64 0) ∧ Below w.heap.size w w' := by
  go_enter Tryd.func22, Tryd.ntmps22
  go_wp2_with (go_at_call 40; refine (As_nil _ _).mono ?_; rintro e w' ⟨rfl, rfl⟩)
  go_ret
  exact ⟨rfl, (Below.refl _ _).alloc (Nat.le_refl _) _⟩
theorem place_in (kd : ByteArray) (x : Addr) (w : World) (hg : w.cell? ⟨14, 0, none⟩ = some (.iface 147 (.agg #[.pointer (some ⟨15, 49, none⟩)]))) :
    Calls Tryd.prog 22 #[inV kd (.iface 165 (.pointer (some x)))] w fun e w' => e = .returned (.int .i64 0) ∧ Below w.heap.size w w' := by
  have hlt := World.block_lt_of_cell? w _ hg
  go_enter Tryd.func22, Tryd.ntmps22
  go_wp2_with fail
  refine (As_in kd _ x _ (by rw [World.cell?_alloc_lt _ _ _ hlt]; exact hg)).mono ?_
  rintro e w1 ⟨rfl, hb1⟩
  go_wp2_with fail
  go_ret
  exact ⟨rfl, ((Below.refl _ _).alloc (Nat.le_refl _) _).trans (hb1.mono (by simp))⟩
theorem place_at (kd : ByteArray) (p : Nat) (x : Addr) (w : World) (hg : w.cell? ⟨14, 0, none⟩ = some (.iface 147 (.agg #[.pointer (some ⟨15, 49, none⟩)]))) :
    Calls Tryd.prog 22 #[inV kd (atV p (.iface 165 (.pointer (some x))))] w fun e w' => e = .returned (.int .i64 p) ∧ Below w.heap.size w w' := by
  have hlt := World.block_lt_of_cell? w _ hg
  go_enter Tryd.func22, Tryd.ntmps22
  go_wp2_with fail
  refine (As_at kd p _ x (.int .i64 0) .nilIface _ (by rw [World.cell?_alloc_lt _ _ _ hlt]; exact hg) (by simp) (by simp) (fun o => froz_new _ _ _ o)).mono ?_
  rintro e w1 ⟨rfl, hc, hg1⟩
  go_wp2_with fail
  go_ret
  exact ⟨rfl, grown_below hg1⟩

theorem number_any (kd : ByteArray) (x0 x1 x2 x3 x4 : Addr) (a p : Nat) (ha : a ≤ 4) (w : World) (h : Laid w x0 x1 x2 x3 x4) (n10 : x1 ≠ x0) (n20 : x2 ≠ x0) (n21 : x2 ≠ x1) (n30 : x3 ≠ x0) (n31 : x3 ≠ x1) (n32 : x3 ≠ x2) :
    Calls Tryd.prog 21 #[errV kd x0 x1 x2 x3 a p] w fun e w' => e = .returned (.int .i64 a) ∧ Below w.heap.size w w' := by
  match a, ha with
  | 0, _ => exact (number_nil x0 x1 x2 x3 x4 w h).mono (by rintro e w' ⟨he, rfl⟩; exact ⟨he, Below.refl _ _⟩)
  | 1, _ => exact number_long kd x0 x1 x2 x3 x4 w h
  | 2, _ => exact number_2 kd p x0 x1 x2 x3 x4 w h n10
  | 3, _ => exact number_3 kd p x0 x1 x2 x3 x4 w h n20 n21
  | 4, _ => exact number_4 kd p x0 x1 x2 x3 x4 w h n30 n31 n32
theorem place_any (kd : ByteArray) (x0 x1 x2 x3 x4 : Addr) (a p : Nat) (ha : a ≤ 4) (hp : a = 0 ∨ a = 1 → p = 0) (w : World) (h : Laid w x0 x1 x2 x3 x4) :
    Calls Tryd.prog 22 #[errV kd x0 x1 x2 x3 a p] w fun e w' => e = .returned (.int .i64 p) ∧ Below w.heap.size w w' := by
  match a, ha with
  | 0, _ => obtain rfl := hp (.inl rfl); exact place_nil w
  | 1, _ => obtain rfl := hp (.inr rfl); exact place_in kd x0 w h.c5
  | 2, _ => exact place_at kd p x1 w h.c5
  | 3, _ => exact place_at kd p x2 w h.c5
  | 4, _ => exact place_at kd p x3 w h.c5
theorem chk_le {s : ByteArray} {a p : Nat} (h : Pu.Chk s a p) : a ≤ 4 ∧ (a = 0 ∨ a = 1 → p = 0) := by
  unfold Pu.Chk at h
  split at h
  · omega
  · split at h
    · split at h
      · omega
      · obtain ⟨F, _, h⟩ := h
        split at h <;> omega
    · omega

set_option maxHeartbeats 1000000 in
theorem Check_any (s : ByteArray) (x0 x1 x2 x3 x4 : Addr) (w : World) (h : Laid w x0 x1 x2 x3 x4) (n10 : x1 ≠ x0) (n20 : x2 ≠ x0) (n21 : x2 ≠ x1) (n30 : x3 ≠ x0) (n31 : x3 ≠ x1) (n32 : x3 ≠ x2) :
    Calls Tryd.prog 9 #[.string s] w fun e w' => Below w.heap.size w w' ∧ ∃ a p : Nat, Pu.Chk s a p ∧ e = .returned (.tuple #[.int .i64 a, .int .i64 p]) := by
  have HL := hide (fun V (hb : Below w.heap.size w V) => h.below hb)
  have HR := hide (ReadGrammar_any s x0 x1 x2 x3 w h.snts)
  clear h
  go_enter Tryd.func9, Tryd.ntmps9
  go_wp2_with fail
  refine HR.out.mono ?_
  rintro e w1 ⟨hb1, a, p, v, hC, rfl, _⟩
  have HCK := aside_of hC
  obtain ⟨ha, hp⟩ := chk_le hC
  have hL1 := HL.out _ hb1
  clear hC HR
  go_wp2_with fail
  refine (number_any kdG x0 x1 x2 x3 x4 a p ha _ hL1 n10 n20 n21 n30 n31 n32).mono ?_
  rintro e w2 ⟨rfl, hb2⟩
  have hL2 := hL1.below hb2
  go_wp2_with fail
  refine (place_any kdG x0 x1 x2 x3 x4 a p ha hp _ hL2).mono ?_
  rintro e w3 ⟨rfl, hb3⟩
  go_wp2_with fail
  go_ret2
  exact ⟨(hb1.trans (hb2.mono hb1.size)).trans (hb3.mono (Nat.le_trans hb1.size hb2.size)), a, p, HCK.out, rfl⟩
end Go.Proofs.YthmbbiahnfpoeaaDoor
