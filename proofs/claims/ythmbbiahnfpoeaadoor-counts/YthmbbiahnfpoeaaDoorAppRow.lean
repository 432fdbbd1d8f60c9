import Derived.Test.YthmbbiahnfpoeaaDoorCut
import Derived.WalkKit
import Derived.WalkSpells
import Derived.WalkSmall
import Derived.BigQuiet
import Derived.Deep.QuietTactic
import Derived.Deep.RegionWith
import Derived.Deep.LoopGhost
import Derived.Deep.RegionHeld3
import Derived.Deep.DeepCutAuto
namespace Go.Proofs.YthmbbiahnfpoeaaDoor
open Go.RowKit

/-- A text as cells. -/
def bys (l : List UInt8) : List Value := l.map fun b => .int .u8 b.toNat
theorem bys_append (a b : List UInt8) : bys (a ++ b) = bys a ++ bys b := List.map_append

set_option maxRecDepth 100000 in
set_option maxHeartbeats 2000000 in
theorem appendRow_any (pb top base q g cap B : Nat) (v s : ByteArray) (R : List (Nat × Nat)) (L : List Nat) (N M : Nat → Nat → Nat → Nat) (T : Nat → Nat → Nat → List UInt8) (bs K : Nat) (A : World → Prop) (hv : v.size ≤ 24) (hN : ∀ c i j, N c i j ≤ 2) (hMN : ∀ c i j, i ≤ j → j ≤ v.size → M c i j ≤ N c i j)
    (hA : ∀ w d, A w → A (w.drewN d)) (hAP : ∀ w, A w → ProgAt w pb top base q g cap B v s R L N)
    (hT : ∀ (c i j : Nat) (tv : Value) (l : List UInt8) (w : World), c < 256 → i ≤ j → j ≤ v.size → N c i j = 1 → 1 ≤ M c i j → A w → w.ownsRow bs 5 1 tv l.length (bys l) → l.length + (T c i j).length ≤ K →
      Calls Tryd.prog 46 #[.pointer (some ⟨pb, 0, none⟩), tv, .int .u8 c, .int .i64 i, .int .i64 j] w fun e w' => ∃ tv', e = .returned tv' ∧ w'.ownsRow bs 5 1 tv' (l ++ T c i j).length (bys (l ++ T c i j)) ∧ A w')
    (t : ByteArray) (i j : Nat) (tv : Value) (l : List UInt8) (w : World) (ht : t.size ≤ 3) (hsg : ∀ a, a < t.size → Pu.sg (Pu.byt t a) = true) (hL : ∀ a, a < t.size → Pu.nm (Pu.byt t a) = true → Pu.byt t a ∈ L) (hij : i ≤ j) (hj : j ≤ v.size)
    (h1 : Pu.ways N v t t.size 0 i j = 1) (h2 : 1 ≤ Pu.ways M v t t.size 0 i j) (hw : A w) (hown : w.ownsRow bs 5 1 tv l.length (bys l)) (hK : l.length + (Pu.rowT N v t T t.size 0 i j).length ≤ K) :
    Calls Tryd.prog 74 #[.pointer (some ⟨pb, 0, none⟩), tv, .string t, .int .i64 i, .int .i64 j] w fun e w' => ∃ tv', e = .returned tv' ∧ w'.ownsRow bs 5 1 tv' (l ++ Pu.rowT N v t T t.size 0 i j).length (bys (l ++ Pu.rowT N v t T t.size 0 i j)) ∧ A w' := by
  obtain ⟨E, hE⟩ : ∃ E, E = l ++ Pu.rowT N v t T t.size 0 i j := ⟨_, rfl⟩
  have hK' : E.length ≤ K := by rw [hE, List.length_append]; exact hK
  rw [← hE]
  have HCUT : Hid (∀ (a i x : Nat) (w : World), a < t.size → i ≤ j → A w → Pu.Step N M v t T (t.size - (a + 1)) a i j x → Calls Tryd.prog 82 #[.pointer (some ⟨pb, 0, none⟩), .string (t.extract a t.size), .int .i64 i, .int .i64 j] w fun e w' => e = .returned (.int .i64 ↑x) ∧ ∃ d, w' = w.drewN d) := by
    intro a i x w ha hi hAw hst
    have hsz : (t.extract a t.size).size = (t.size - (a + 1)) + 1 := by simp [ByteArray.size_extract]; omega
    have hb : ∀ k, k < t.size - a → Pu.byt (t.extract a t.size) k = Pu.byt t (a + k) := fun k hk => byt_sub (s := t) (a := a) (b := t.size) (Nat.le_refl _) hk
    have hr : ∀ y, y ≤ j → Pu.rowsP N v (t.extract a t.size) (t.size - (a + 1)) 1 y j = Pu.ways N v t (t.size - (a + 1)) (a + 1) y j := fun y hy => by
      have := rowsP_sub (N := N) (v := v) (s := t) (a := a) (b := t.size) (Nat.le_refl _) (t.size - (a + 1)) 1 y j (by omega)
      rw [show Pu.rowsP N v (t.extract a t.size) (t.size - (a + 1)) 1 y j = _ from this]
      exact Pu.rowsP_eq hN _ _ _ _ hy (fun a' h1 h2 => hsg a' (by omega))
    refine cut_any pb top base q g cap B v s R L N hv hN (t.extract a t.size) (t.size - (a + 1)) i j x w hsz (by omega) (fun k hk => ?_) hi hj (hAP w hAw) hst.lo hst.hi ?_ (fun y g1 g2 => ?_)
    · rw [hsz] at hk; rw [hb k (by omega)]; exact hL _ (by omega)
    · rw [hb 0 (by omega), hr x hst.hi, hst.here.2]; exact ⟨hst.here.1, by omega⟩
    · rw [hb 0 (by omega), hr y (by have := hst.hi; omega)]; exact hst.ahead y g1 g2
  have HST : Hid (∀ a i, a < t.size → Pu.ways N v t (t.size - a) a i j = 1 → 1 ≤ Pu.ways M v t (t.size - a) a i j → ∃ x, Pu.Step N M v t T (t.size - (a + 1)) a i j x) := by
    intro a i ha g1 g2
    rw [show t.size - a = (t.size - (a + 1)) + 1 by omega] at g1 g2
    exact Pu.exists_step T hMN hj (hsg a ha) g1 g2
  have HT := hide hT
  have HA := hide hA
  have h10 : Pu.ways N v t (t.size - 0) 0 i j = 1 := h1
  have h20 : 1 ≤ Pu.ways M v t (t.size - 0) 0 i j := h2
  have hE0 : l ++ Pu.rowT N v t T (t.size - 0) 0 i j = E := hE.symm
  clear h1 h2 hE hK hT hA hsg hL
  go_enter Tryd.func74, Tryd.ntmps74
  go_wp2_with fail
  go_loopg [1, 3, 15] (t.size + 1) (fun n tv iv kv V => ∃ (a i : Nat) (l : List UInt8), iv = .int .i64 i ∧ kv = .int .i64 a ∧ a ≤ t.size ∧ n = t.size + 1 - a ∧ i ≤ j ∧ V.ownsRow bs 5 1 tv l.length (bys l) ∧ A V ∧ Pu.ways N v t (t.size - a) a i j = 1 ∧ 1 ≤ Pu.ways M v t (t.size - a) a i j ∧ l ++ Pu.rowT N v t T (t.size - a) a i j = E)
  case atStart => exact ⟨0, i, l, rfl, rfl, Nat.zero_le _, rfl, hij, hown, hw, h10, h20, hE0⟩
  case round =>
    clear hij hown hw h10 h20 hE0 i l
    obtain ⟨a, i, l, rfl, rfl, ha, rfl, hij, hown, hw, h1, h2, hE⟩ := hrel
    by_cases hat : a < t.size
    · obtain ⟨x, hst⟩ := HST.out a i hat h1 h2
      have HC := hide (HCUT.out a i x _ hat hij hw hst)
      have gN := hide (fun w => gName_any t[a].toNat w)
      have hby := Pu.byt_eq hat
      have b1 : (0 : Int) ≤ (a : Int) := by omega
      have b2 : (a : Int) < (t.size : Int) := by omega
      have b3 : (a : Int) ≤ (t.size : Int) := by omega
      have hrow := hst.row
      rw [show t.size - (a + 1) + 1 = t.size - a by omega] at hrow
      have hlo := hst.lo
      have hhi := hst.hi
      have hw1 := hst.here.2
      have hl1 := hst.lvl
      have hnm := hst.name
      rw [hrow] at hE
      clear h1 h2 hrow hst
      by_cases hn : Pu.nm (Pu.byt t a) = true
      · rw [if_pos hn, ← List.append_assoc] at hE
        obtain ⟨g1, g2⟩ := hnm hn
        have hlen : l.length + (T (Pu.byt t a) i x).length ≤ K := by
          have := congrArg List.length hE
          simp only [List.length_append] at this
          omega
        have HX := hide (fun d => HT.out (Pu.byt t a) i x _ l _ (Pu.byt_lt _ _) hlo (by omega) g1 g2 (HA.out _ d hw) (owns_below hown (Go.below_drewN (Below.refl _ _) d)) hlen)
        have hn' : Pu.nm t[a].toNat = true := by rw [hby]; exact hn
        have HE := aside_of hE
        have HW := aside_of (And.intro hw1 hl1)
        rw [← hby] at HX HE
        clear hn hnm g1 g2 hby hE hw1 hl1 hown hw hlen HT HST HCUT
        go_wp2_with (first | (go_at_call 82; refine HC.out.mono ?_; rintro e w2 ⟨rfl, q2, rfl⟩) | (go_at_call 59; refine (gN.out _).mono ?_; rintro e w3 ⟨rfl, rfl⟩) | (go_at_call 46; refine (HX.out _).mono ?_; rintro e w4 ⟨tv', rfl, ho4, hw4⟩))
        go_roundg (t.size + 1 - (a + 1))
        case measure => omega
        case rel => exact ⟨a + 1, x, _, rfl, by go_num, by omega, rfl, hhi, ho4, hw4, HW.out.1, HW.out.2, HE.out⟩
      · rw [if_neg hn] at hE
        have hn' : Pu.nm t[a].toNat = false := by rw [hby]; simpa using hn
        have HE := aside_of hE
        have HW := aside_of (And.intro hw1 hl1)
        have HO := hide (fun d => And.intro (HA.out _ d hw) (owns_below hown (Go.below_drewN (Below.refl _ _) d)))
        clear hn hnm hby hE hw1 hl1 hown hw HT HST HCUT
        go_wp2_with (first | (go_at_call 82; refine HC.out.mono ?_; rintro e w2 ⟨rfl, q2, rfl⟩) | (go_at_call 59; refine (gN.out _).mono ?_; rintro e w3 ⟨rfl, rfl⟩))
        go_roundg (t.size + 1 - (a + 1))
        case measure => omega
        case rel => exact ⟨a + 1, x, l, rfl, by go_num, by omega, rfl, hhi, (HO.out _).2, (HO.out _).1, HW.out.1, HW.out.2, HE.out⟩
    · obtain rfl : a = t.size := by omega
      have hE' : l = E := by rw [← hE, Nat.sub_self]; simp [Pu.rowT]
      clear hE h1 h2
      subst hE'
      go_wp2_with fail
      go_ret
      exact ⟨_, rfl, hown, hw⟩
end Go.Proofs.YthmbbiahnfpoeaaDoor
