import Derived.Test.YthmbbiahnfpoeaaDoorNumbers
import Derived.WalkKit
import Derived.WalkSpells
import Derived.WalkSmall
import Derived.BigQuiet
import Derived.Deep.QuietTactic
import Derived.Deep.RegionWith
import Derived.Deep.LoopGhost
import Derived.Deep.RegionHeld3
import Derived.Deep.DeepCutAuto
import Derived.Maps.OwnSet
import Derived.Maps.OwnOps
namespace Go.Proofs.YthmbbiahnfpoeaaDoor
open Go.RowKit Go.Maps

/-- A grammar in memory: its rules and the numbers of its names. -/
structure GrAt (w : World) (q g cap B : Nat) (s : ByteArray) (R : List (Nat × Nat)) (L : List Nat) : Prop where
  blk : w.heap[q]? = some (.cells #[.slice (some ⟨g, 0, none⟩) R.length cap, .map (some B)] 86 (0, 0))
  rules : RulesAt w g s R
  nums : NumAt w B L
section
variable {w w' : World} {q g cap B : Nat} {s : ByteArray} {R : List (Nat × Nat)} {L : List Nat}
theorem GrAt.c0 (h : GrAt w q g cap B s R L) : w.cell? ⟨q, 0, none⟩ = some (.slice (some ⟨g, 0, none⟩) R.length cap) := by have := h.blk; simp [World.cell?, this]
theorem GrAt.c1 (h : GrAt w q g cap B s R L) : w.cell? ⟨q, 1, none⟩ = some (.map (some B)) := by have := h.blk; simp [World.cell?, this]
theorem GrAt.drewN (h : GrAt w q g cap B s R L) (n : Nat) : GrAt (w.drewN n) q g cap B s R L := ⟨h.blk, h.rules.grown (grown_drewN w n none) (by simp), h.nums.kept (grown_drewN w n none) (by simp)⟩
theorem GrAt.grown (h : GrAt w q g cap B s R L) {row : Option Nat} (hg : w.grownBy w' row) (h1 : some q ≠ row) (h2 : some g ≠ row) (h3 : some B ≠ row) : GrAt w' q g cap B s R L :=
  ⟨(hg.block q (Array.getElem?_eq_some_iff.1 h.blk).1 h1).trans h.blk, h.rules.grown hg h2, h.nums.kept hg h3⟩
theorem GrAt.alloc (h : GrAt w q g cap B s R L) (o : Obj) : GrAt (w.alloc o) q g cap B s R L := h.grown (World.grownBy_alloc w o none) (by simp) (by simp) (by simp)
theorem GrAt.lt (h : GrAt w q g cap B s R L) : q < w.heap.size := (Array.getElem?_eq_some_iff.1 h.blk).1
end

theorem Number_any (q g cap B : Nat) (s : ByteArray) (R : List (Nat × Nat)) (L : List Nat) (c : Nat) (w : World) (h : GrAt w q g cap B s R L) (hc : c < 256) (hL : c ∈ L) :
    Calls Tryd.prog 62 #[.pointer (some ⟨q, 0, none⟩), .int .u8 c] w fun e w' => e = .returned (.int .i64 ↑(L.idxOf c)) ∧ w' = w := by
  have c1 := h.c1
  have hl := h.nums.look hc
  simp only [hL, if_true] at hl
  clear h
  go_enter Tryd.func62, Tryd.ntmps62
  go_wp2
  go_ret
  exact ⟨rfl, rfl⟩
theorem Names_any (q g cap B : Nat) (s : ByteArray) (R : List (Nat × Nat)) (L : List Nat) (w : World) (h : GrAt w q g cap B s R L) :
    Calls Tryd.prog 71 #[.pointer (some ⟨q, 0, none⟩)] w fun e w' => e = .returned (.int .i64 ↑L.length) ∧ w' = w := by
  have c1 := h.c1
  have hl := fun ty => h.nums.len ty
  clear h
  go_enter Tryd.func71, Tryd.ntmps71
  go_wp2
  go_ret
  exact ⟨rfl, rfl⟩
theorem signPlace_any (a t : Value) (p k : Nat) (w : World) (hp : p ≤ 50) (hk : k ≤ 50) (ha : ∃ n, a = .int .u8 n) (ht : ∃ x, t = .string x) :
    Calls Tryd.prog 60 #[.agg #[a, t, .int .i64 p], .int .i64 k] w fun e w' => e = .returned (.int .i64 ↑(p + 2 + k)) ∧ Below w.heap.size w w' := by
  obtain ⟨n, rfl⟩ := ha
  obtain ⟨x, rfl⟩ := ht
  go_enter Tryd.func60, Tryd.ntmps60
  go_wp2
  go_ret
  exact ⟨ret_int (by omega), (Below.refl _ _).alloc (Nat.le_refl _) _⟩

/-- The program's own set: of each name, by its number. -/
def SetL (w : World) (g : Nat) (L : List Nat) (F : Nat → Bool) : Prop := ∃ cs : Array Value, w.heap[g]? = some (.cells cs 4 (0, 0)) ∧ ∀ c ∈ L, cs[L.idxOf c]? = some (.bool (F c))
theorem SetL.at {w : World} {g : Nat} {L : List Nat} {F : Nat → Bool} (h : SetL w g L F) {c : Nat} (hc : c ∈ L) : w.cell? ⟨g, L.idxOf c, none⟩ = some (.bool (F c)) := by
  obtain ⟨cs, h1, h2⟩ := h
  simp [World.cell?, h1, h2 c hc]
theorem SetL.frozen {w : World} {g : Nat} {L : List Nat} {F : Nat → Bool} (h : SetL w g L F) (k : Nat) : w.frozen? ⟨g, k, none⟩ = false := by
  obtain ⟨cs, hh, hc⟩ := h
  simp [World.frozen?, hh]
theorem SetL.set {w : World} {g : Nat} {L : List Nat} {F : Nat → Bool} (h : SetL w g L F) {c : Nat} (hc : c ∈ L) : SetL (w.setCell ⟨g, L.idxOf c, none⟩ (.bool true)) g L (Pu.add F c) := by
  obtain ⟨cs, hh, hcs⟩ := h
  refine ⟨cs.setIfInBounds (L.idxOf c) (.bool true), ?_, fun d hd => ?_⟩
  · show (w.heap.modify g _)[g]? = _
    rw [Array.getElem?_modify, if_pos rfl, hh]; rfl
  · by_cases e : d = c
    · subst e
      have hs : L.idxOf d < cs.size := by
        rcases Nat.lt_or_ge (L.idxOf d) cs.size with h | h
        · exact h
        · have := hcs d hd; rw [Array.getElem?_eq_none h] at this; cases this
      rw [Array.getElem?_setIfInBounds_self_of_lt hs]
      simp [Pu.add]
    · have hne : L.idxOf c ≠ L.idxOf d := fun h => e (by
        have h1 := List.getElem_idxOf (List.idxOf_lt_length_iff.2 hd)
        have h2 := List.getElem_idxOf (List.idxOf_lt_length_iff.2 hc)
        rw [← h1, ← h2]; simp [h])
      rw [Array.getElem?_setIfInBounds_ne hne, hcs d hd]
      simp [Pu.add, e]
theorem SetL.grown {w w' : World} {g : Nat} {L : List Nat} {F : Nat → Bool} (h : SetL w g L F) {row : Option Nat} (hg : w.grownBy w' row) (hne : some g ≠ row) : SetL w' g L F := by
  obtain ⟨cs, hh, hc⟩ := h
  exact ⟨cs, (hg.block g (Array.getElem?_eq_some_iff.1 hh).1 hne).trans hh, hc⟩
theorem drewN_drewN (w : World) (a b : Nat) : (w.drewN a).drewN b = w.drewN (a + b) := by simp [World.drewN, Nat.add_assoc]
theorem idx_lt {L : List Nat} {c : Nat} (h : c ∈ L) : L.idxOf c < L.length := List.idxOf_lt_length_iff.2 h

set_option maxRecDepth 100000 in
set_option maxHeartbeats 1000000 in
theorem grows_any (q g cap B gs fb gx : Nat) (s : ByteArray) (R : List (Nat × Nat)) (L : List Nat) (F : Nat → Bool) (c p : Nat) (t : ByteArray) (w : World)
    (h : GrAt w q g cap B s R L) (hS : SetL w gs L F) (hf : w.cell? ⟨fb, 0, none⟩ = some (.slice (some ⟨gs, 0, none⟩) L.length L.length)) (hx : w.cell? ⟨gx, 0, none⟩ = some (.pointer (some ⟨q, 0, none⟩)))
    (hc : c ∈ L) (hc256 : c < 256) (ht : t.size ≤ 50) (hin : ∀ j, j < t.size → Pu.nm (Pu.byt t j) = true → Pu.byt t j ∈ L) :
    Calls Tryd.prog 78 #[.agg #[.int .u8 c, .string t, .int .i64 p], .pointer (some ⟨fb, 0, none⟩), .pointer (some ⟨gx, 0, none⟩)] w fun e w' => e = .returned (.bool (Pu.allIn t F t.size 0 && !F c)) ∧ Below w.heap.size w w' := by
  have hGW := h.alloc (.cells #[.int .u8 c, .string t, .int .i64 p] 115)
  have hSW := hS.grown (World.grownBy_alloc w (.cells #[.int .u8 c, .string t, .int .i64 p] 115) none) (by simp)
  have hfW : (w.alloc (.cells #[.int .u8 c, .string t, .int .i64 p] 115)).cell? ⟨fb, 0, none⟩ = some (.slice (some ⟨gs, 0, none⟩) L.length L.length) := by rw [World.cell?_alloc_lt _ _ _ (World.block_lt_of_cell? w _ hf)]; exact hf
  have hxW : (w.alloc (.cells #[.int .u8 c, .string t, .int .i64 p] 115)).cell? ⟨gx, 0, none⟩ = some (.pointer (some ⟨q, 0, none⟩)) := by rw [World.cell?_alloc_lt _ _ _ (World.block_lt_of_cell? w _ hx)]; exact hx
  have r0 : (w.alloc (.cells #[.int .u8 c, .string t, .int .i64 p] 115)).cell? ⟨w.heap.size, 0, none⟩ = some (.int .u8 c) := by simp
  have r1 : (w.alloc (.cells #[.int .u8 c, .string t, .int .i64 p] 115)).cell? ⟨w.heap.size, 1, none⟩ = some (.string t) := by simp
  have hBW : Below w.heap.size w (w.alloc (.cells #[.int .u8 c, .string t, .int .i64 p] 115)) := (Below.refl _ _).alloc (Nat.le_refl _) _
  have HIN := aside_of hin
  clear h hS hf hx hin
  go_enter Tryd.func78, Tryd.ntmps78
  go_wp2_with fail
  generalize w.alloc (.cells #[.int .u8 c, .string t, .int .i64 p] 115) = W at *
  have FT : ∀ V, (∃ n, V = W.drewN n) → GrAt V q g cap B s R L ∧ SetL V gs L F ∧ V.cell? ⟨fb, 0, none⟩ = some (.slice (some ⟨gs, 0, none⟩) L.length L.length) ∧ V.cell? ⟨gx, 0, none⟩ = some (.pointer (some ⟨q, 0, none⟩)) ∧ V.cell? ⟨w.heap.size, 0, none⟩ = some (.int .u8 c) ∧ V.cell? ⟨w.heap.size, 1, none⟩ = some (.string t) ∧ Below w.heap.size w V := by
    rintro V ⟨n, rfl⟩
    exact ⟨hGW.drewN n, hSW, hfW, hxW, r0, r1, Go.below_drewN hBW n⟩
  have HFT := hide FT
  clear FT hGW hSW hfW hxW r0 r1 hBW
  go_loopg [9] t.size (fun n iv wr => ∃ k : Nat, iv = .int .i64 k ∧ k ≤ t.size ∧ n = t.size - k ∧ (∃ nq, wr = W.drewN nq) ∧ Pu.allIn t F t.size 0 = Pu.allIn t F (t.size - k) k)
  case atStart => exact ⟨0, rfl, Nat.zero_le _, rfl, ⟨0, rfl⟩, rfl⟩
  case round =>
    obtain ⟨k, rfl, hk, rfl, hwr, hal⟩ := hrel
    have HA := aside_of hal
    obtain ⟨hGV, hSV, hfV, hxV, r0, r1, hBV⟩ := HFT.out wr hwr
    have HW := hide hwr
    clear hal hwr
    by_cases hlt : k < t.size
    · have HD : Aside (Pu.allIn t F (t.size - k) k = if Pu.nm (Pu.byt t k) = true ∧ F (Pu.byt t k) = false then false else Pu.allIn t F (t.size - (k+1)) (k + 1)) := by
        show _ = _
        rw [show t.size - k = (t.size - (k + 1)) + 1 by omega]; rfl
      have hINk := HIN.out k hlt
      have h256 := Pu.byt_lt t k
      rw [← Pu.byt_eq hlt] at HD hINk h256
      have b1 : (0 : Int) ≤ (k : Int) := by omega
      have b2 : (k : Int) < (t.size : Int) := by omega
      have gN := fun w => gName_any t[k].toNat w
      by_cases hnm : Pu.nm t[k].toNat = true
      · have hdL := hINk hnm
        have hcell := hSV.at hdL
        have hix := idx_lt hdL
        have NB := fun n => Number_any q g cap B s R L t[k].toNat (wr.drewN n) (hGV.drewN n) h256 hdL
        have HN := hide NB
        obtain ⟨m, hm⟩ : ∃ m, m = L.idxOf t[k].toNat := ⟨_, rfl⟩
        rw [← hm] at hcell hix HN
        have b3 : (0 : Int) ≤ (m : Int) := by omega
        have b4 : (m : Int) < (L.length : Int) := by omega
        have HNN := aside_of hnm
        rw [hnm] at gN
        have GN := hide gN
        clear NB hm hnm gN hINk h256 hGV hSV hdL
        by_cases hFd : F t[k].toNat = true
        · have HX : Aside (Pu.allIn t F t.size 0 = Pu.allIn t F (t.size - (k + 1)) (k + 1)) := by
            show _ = _
            rw [HA.out, HD.out, if_neg (fun h => by rw [hFd] at h; exact absurd h.2 (by decide))]
          clear HA HD
          go_wp2_with fail
          go_quiet (first | (go_at_call 59; exact Calls.quiet_of_same (GN.out _)) | (go_at_call 62; exact Calls.quiet_of_same (HN.out _)))
          go_wp2
          go_roundg (t.size - (k + 1))
          case measure => omega
          case rel =>
            obtain ⟨n0, h0⟩ := HW.out
            exact ⟨k + 1, by go_num, by omega, rfl, ⟨_, by rw [h0]; exact drewN_drewN _ _ _⟩, HX.out⟩
        · have hFf : F t[k].toNat = false := by simpa using hFd
          have HX : Aside (Pu.allIn t F t.size 0 = false) := by
            show _ = _
            rw [HA.out, HD.out, if_pos ⟨HNN.out, hFf⟩]
          clear HA HD hFd
          go_wp2_with fail
          go_quiet (first | (go_at_call 59; exact Calls.quiet_of_same (GN.out _)) | (go_at_call 62; exact Calls.quiet_of_same (HN.out _)))
          go_wp2
          go_ret
          exact ⟨by rw [HX.out]; rfl, Go.below_drewN hBV _⟩
      · have hn0 : Pu.nm t[k].toNat = false := by simpa using hnm
        have HX : Aside (Pu.allIn t F t.size 0 = Pu.allIn t F (t.size - (k + 1)) (k + 1)) := by
          show _ = _
          rw [HA.out, HD.out, if_neg (fun h => hnm h.1)]
        rw [hn0] at gN
        have GN := hide gN
        clear HA HD hnm gN hINk h256 hGV hSV hn0
        go_wp2_with fail
        go_quiet ((go_at_call 59; exact Calls.quiet_of_same (GN.out _)))
        go_wp2
        go_roundg (t.size - (k + 1))
        case measure => omega
        case rel =>
          obtain ⟨n0, h0⟩ := HW.out
          exact ⟨k + 1, by go_num, by omega, rfl, ⟨_, by rw [h0]; exact drewN_drewN _ _ _⟩, HX.out⟩
    · have HX : Aside (Pu.allIn t F t.size 0 = true) := by
        show _ = _
        rw [HA.out, show t.size - k = 0 by omega]; rfl
      have hcell := hSV.at hc
      have hix := idx_lt hc
      have NB := fun n => Number_any q g cap B s R L c (wr.drewN n) (hGV.drewN n) hc256 hc
      have HN := hide NB
      obtain ⟨m, hm⟩ : ∃ m, m = L.idxOf c := ⟨_, rfl⟩
      rw [← hm] at hcell hix HN
      have b3 : (0 : Int) ≤ (m : Int) := by omega
      have b4 : (m : Int) < (L.length : Int) := by omega
      clear NB hm HA hGV hSV
      go_wp2_with fail
      go_quiet ((go_at_call 62; exact Calls.quiet_of_same (HN.out _)))
      go_wp2
      go_ret
      exact ⟨by rw [HX.out]; rfl, Go.below_drewN hBV _⟩
end Go.Proofs.YthmbbiahnfpoeaaDoor
