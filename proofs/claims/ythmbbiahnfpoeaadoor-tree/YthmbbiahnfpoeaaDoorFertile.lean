import Derived.Test.YthmbbiahnfpoeaaDoorGrows
import Derived.WalkKit
import Derived.WalkSpells
import Derived.WalkSmall
import Derived.BigQuiet
import Derived.Deep.QuietTactic
import Derived.Deep.RegionWith
import Derived.Deep.LoopGhost
import Derived.Deep.RegionHeld3
import Derived.Deep.DeepCutAuto
import Derived.Maps.OwnSet
import Derived.Maps.OwnOps
namespace Go.Proofs.YthmbbiahnfpoeaaDoor
open Go.RowKit Go.Maps

namespace Pu
/-- Every name in a right side has a rule. -/
def Closed (s : ByteArray) (R : List (Nat × Nat)) : Prop := ∀ r ∈ R, ∀ j, r.1 + 2 ≤ j → j < r.2 → nm (byt s j) = true → has s R (byt s j) = true
theorem badIn_none {s : ByteArray} {R : List (Nat × Nat)} : ∀ n j, badIn s R n j = none → ∀ i, j ≤ i → i < j + n → nm (byt s i) = true → has s R (byt s i) = true
  | 0, _, _, i, h1, h2, _ => by omega
  | n + 1, j, h, i, h1, h2, h3 => by
    simp only [badIn] at h
    split at h
    · cases h
    · rename_i hb
      by_cases e : i = j
      · subst e
        cases hh : has s R (byt s i) with
        | true => rfl
        | false => exact absurd ⟨h3, hh⟩ hb
      · exact badIn_none n (j + 1) h i (by omega) (by omega) h3
theorem closed_of {s : ByteArray} {R : List (Nat × Nat)} : ∀ l, bad s R l = none → ∀ r ∈ l, ∀ j, r.1 + 2 ≤ j → j < r.2 → nm (byt s j) = true → has s R (byt s j) = true
  | [], _, r, hr, _, _, _, _ => by cases hr
  | x :: l, h, r, hr, j, h1, h2, h3 => by
    simp only [bad] at h
    cases hb : badIn s R (x.2 - (x.1 + 2)) (x.1 + 2) with
    | some k => rw [hb] at h; cases h
    | none =>
      rw [hb] at h
      rcases List.mem_cons.1 hr with rfl | hr
      · exact badIn_none _ _ hb j h1 (by omega) h3
      · exact closed_of l h r hr j h1 h2 h3
theorem has_of {s : ByteArray} {R : List (Nat × Nat)} {r : Nat × Nat} (h : r ∈ R) : has s R (byt s r.1) = true := by
  simp only [has, List.any_eq_true, beq_iff_eq]
  exact ⟨r, h, rfl⟩
end Pu
theorem mem_names {s : ByteArray} {R : List (Nat × Nat)} {c : Nat} (h : Pu.has s R c = true) : c ∈ Pu.dist s R [] := ((Pu.dist_spec s R [] List.nodup_nil).2.1 c).2 (.inr h)
theorem names_len (s : ByteArray) (R : List (Nat × Nat)) : (Pu.dist s R []).length ≤ R.length := by
  have := (Pu.dist_spec s R [] List.nodup_nil).2.2; simpa using this

theorem grows_rule (q g cap B gs fb gx : Nat) (s : ByteArray) (R : List (Nat × Nat)) (F : Nat → Bool) (r : Nat × Nat) (b : Bool) (w : World) (hb : Hid (Pu.grows s F r = b))
    (h : GrAt w q g cap B s R (Pu.dist s R [])) (hS : SetL w gs (Pu.dist s R []) F) (hf : w.cell? ⟨fb, 0, none⟩ = some (.slice (some ⟨gs, 0, none⟩) (Pu.dist s R []).length (Pu.dist s R []).length)) (hx : w.cell? ⟨gx, 0, none⟩ = some (.pointer (some ⟨q, 0, none⟩)))
    (hr : r ∈ R) (hr2 : r.2 ≤ s.size) (hs : s.size ≤ 50) (hC : Pu.Closed s R) :
    Calls Tryd.prog 78 #[.agg #[.int .u8 ↑(Pu.byt s r.1), .string (sub s (r.1 + 2) r.2), .int .i64 r.1], .pointer (some ⟨fb, 0, none⟩), .pointer (some ⟨gx, 0, none⟩)] w fun e w' => e = .returned (.bool b) ∧ Below w.heap.size w w' := by
  have hz := size_sub (s := s) (a := r.1 + 2) hr2
  have hc := grows_any q g cap B gs fb gx s R (Pu.dist s R []) F (Pu.byt s r.1) r.1 (sub s (r.1 + 2) r.2) w h hS hf hx (mem_names (Pu.has_of hr)) (Pu.byt_lt _ _) (by rw [hz]; omega)
    (fun j hj hn => by
      rw [hz] at hj
      rw [byt_sub hr2 hj] at hn ⊢
      exact mem_names (hC r hr _ (by omega) (by omega) hn))
  rw [hz, allIn_sub hr2 (r.2 - (r.1 + 2)) 0 (Nat.add_zero _)] at hc
  rw [← hb.out]
  exact hc

theorem setL_made {w : World} {B g n : Nat} {L : List Nat} (hn : n = L.length) (h : w.ownsRow B 4 1 (.slice (some ⟨g, 0, none⟩) n n) n (madeCells (Value.bool false).cells (n * 1)).toList) : SetL w g L (fun _ => false) := by
  obtain ⟨_, ⟨h0, _⟩ | ⟨g', cap, cur, hv, _, hh, _, _, hsz, htake⟩⟩ := h
  · cases h0
  · simp only [Value.slice.injEq, Option.some.injEq, Addr.mk.injEq, and_true, true_and] at hv
    obtain ⟨rfl, rfl⟩ := hv
    refine ⟨cur, hh, fun c hc => ?_⟩
    have hi := idx_lt hc
    rw [← hn] at hi
    have : (cur.toList.take (n * 1))[L.idxOf c]? = some (.bool false) := by
      rw [htake]
      have hcz : (Value.bool false).cells = #[.bool false] := by simp [Value.cells]
      simp [madeCells, hi, hcz, Nat.mod_one]
    rw [List.getElem?_take, if_pos (by omega)] at this
    simpa using this

/-- What lies in memory while the program's set grows. -/
structure Fert (w V : World) (q g cap B gs fb gx : Nat) (s : ByteArray) (R : List (Nat × Nat)) (L : List Nat) (F : Nat → Bool) : Prop where
  gr : GrAt V q g cap B s R L
  set : SetL V gs L F
  cf : V.cell? ⟨fb, 0, none⟩ = some (.slice (some ⟨gs, 0, none⟩) L.length L.length)
  cx : V.cell? ⟨gx, 0, none⟩ = some (.pointer (some ⟨q, 0, none⟩))
  bel : Below w.heap.size w V
section
variable {w V V' : World} {q g cap B gs fb gx : Nat} {s : ByteArray} {R : List (Nat × Nat)} {L : List Nat} {F : Nat → Bool}
theorem Fert.below (h : Fert w V q g cap B gs fb gx s R L F) (hb : Below V.heap.size V V') : Fert w V' q g cap B gs fb gx s R L F :=
  ⟨h.gr.grown (below_grown hb none) (by simp) (by simp) (by simp), h.set.grown (below_grown hb none) (by simp), (below_grown hb none).cell h.cf (by simp), (below_grown hb none).cell h.cx (by simp), h.bel.trans (hb.mono h.bel.size)⟩
theorem Fert.alloc (h : Fert w V q g cap B gs fb gx s R L F) (o : Obj) : Fert w (V.alloc o) q g cap B gs fb gx s R L F := h.below ((Below.refl _ _).alloc (Nat.le_refl _) _)
theorem Fert.put (h : Fert w V q g cap B gs fb gx s R L F) {c : Nat} (hc : c ∈ L) (h1 : w.heap.size ≤ gs) (h2 : fb ≠ gs) (h3 : gx ≠ gs) (h4 : q ≠ gs) (h5 : g ≠ gs) (h6 : B ≠ gs) :
    Fert w (V.setCell ⟨gs, L.idxOf c, none⟩ (.bool true)) q g cap B gs fb gx s R L (Pu.add F c) :=
  ⟨h.gr.grown (grown_set V gs _ _) (by simpa using h4) (by simpa using h5) (by simpa using h6), h.set.set hc, (grown_set V gs _ _).cell h.cf (by simpa using h2), (grown_set V gs _ _).cell h.cx (by simpa using h3), h.bel.setCell h1 _⟩
theorem Fert.drewN (h : Fert w V q g cap B gs fb gx s R L F) (n : Nat) : Fert w (V.drewN n) q g cap B gs fb gx s R L F := h.below (Go.below_drewN (Below.refl _ _) n)
theorem Fert.drew (h : Fert w V q g cap B gs fb gx s R L F) : Fert w V.drew q g cap B gs fb gx s R L F := h.below (Below.refl _ _).drew
end

set_option maxRecDepth 100000 in
set_option maxHeartbeats 2000000 in
theorem fertile_any (q g cap B : Nat) (s : ByteArray) (R : List (Nat × Nat)) (w : World) (h : GrAt w q g cap B s R (Pu.dist s R [])) (hG : Pu.Good s R) (hC : Pu.Closed s R) (hn : R.length ≤ 8) (hs : s.size ≤ 50)
    (hgw : g < w.heap.size) (hBw : B < w.heap.size) :
    Calls Tryd.prog 61 #[.pointer (some ⟨q, 0, none⟩)] w fun e w' => Below w.heap.size w w' ∧ ∃ gs F, e = .returned (.slice (some ⟨gs, 0, none⟩) (Pu.dist s R []).length (Pu.dist s R []).length) ∧ w.heap.size ≤ gs ∧ SetL w' gs (Pu.dist s R []) F ∧ Pu.Still s R F := by
  have hll := names_len s R
  obtain ⟨L, hL⟩ : ∃ L, L = Pu.dist s R [] := ⟨_, rfl⟩
  have h' := h
  rw [← hL] at h' hll ⊢
  obtain ⟨i0, hi, hz0, hz1, hz2⟩ := info_parts Tryd.info4
  have hmf : ∀ (fn : Fn) (first cap : Array Value) (w : World), (Instr.makeFunc fn first cap).run Tryd.prog w = .ok (.func fn first cap) w := fun _ _ _ _ => rfl
  have hG1 := h'.alloc (.cells #[.pointer (some ⟨q, 0, none⟩)] 47)
  have HL := aside_of hL
  clear h hL
  go_enter Tryd.func61, Tryd.ntmps61
  go_wp2_with (first
    | (go_at_call 71; refine (Names_any q g cap B s R L _ hG1).mono ?_; rintro e w1 ⟨rfl, rfl⟩)
    | (at_make; refine wpList_make_full _ rfl _ _ 56 rfl (w.heap.size + 1) 4 i0 (.bool false) 1 Tryd.underlying56 hi hz0 hz1 _ _ _ _ L.length rfl rfl rfl rfl (by rw [hz2]; omega) (by unfold maxLen; omega) (by simp) ?_; intro w2 hown hgr))
  have hzw := hgr.size
  simp only [World.size_alloc] at hzw
  have hgs : (w.alloc (.cells #[.pointer (some ⟨q, 0, none⟩)] 47)).heap.size = w.heap.size + 1 := by simp
  rw [hgs] at hown
  have hlt2 := (hown.lt _ rfl).2
  have hcx2 : w2.cell? ⟨w.heap.size, 0, none⟩ = some (.pointer (some ⟨q, 0, none⟩)) := hgr.cell (by simp) (by simp)
  have hql := h'.lt
  have hF0 : Fert w (w2.alloc (.cells #[.slice (some ⟨w.heap.size + 1, 0, none⟩) L.length L.length] 56)) q g cap B (w.heap.size + 1) w2.heap.size w.heap.size s R L (fun _ => false) := by
    refine ⟨((hG1.grown hgr (by simp) (by simp) (by simp)).alloc _), (setL_made rfl hown).grown (World.grownBy_alloc w2 _ none) (by simp), by simp, ?_, ?_⟩
    · rw [World.cell?_alloc_lt _ _ _ (by simp; omega)]; exact hcx2
    · exact (Below.grown ((Below.refl _ _).alloc (Nat.le_refl _) _) hgr (by simp) (fun _ h => by cases h)).alloc (by omega) _
  obtain ⟨fb, hfb⟩ : ∃ fb, fb = w2.heap.size := ⟨_, rfl⟩
  generalize hgsx : w.heap.size + 1 = gs at *
  rw [← hfb] at hF0 ⊢
  have n2 : fb ≠ gs := by simp at hlt2; omega
  have n3 : w.heap.size ≠ gs := by omega
  have n4 : q ≠ gs := by omega
  have n5 : g ≠ gs := by omega
  have n6 : B ≠ gs := by omega
  have n1 : w.heap.size ≤ gs := by omega
  generalize w2.alloc (.cells #[.slice (some ⟨gs, 0, none⟩) L.length L.length] 56) = W0 at *
  clear hown hgr hzw hgs hlt2 hcx2 hG1 h' hfb hgsx hmf
  go_loopg [5] (2 * 26 + 1) (fun n ag wr => ∃ (m : Nat) (F : Nat → Bool) (b : Bool), ag = .bool b ∧ Fert w wr q g cap B gs fb w.heap.size s R L F ∧ F = Pu.sweeps s R m ∧ (b = false → Pu.sweep s R (F, false) = (F, false)) ∧ 2 * Pu.cnt F + b.toNat ≤ n)
  case atStart => exact ⟨0, _, true, rfl, hF0, rfl, (fun h => by cases h), by decide⟩
  case round =>
    clear hF0
    obtain ⟨m, F, b, rfl, hFr, hF, hst, hcn⟩ := hrel
    have cf := hFr.cf
    have cx := hFr.cx
    have c0 := hFr.gr.c0
    cases b with
    | false =>
      have A : Aside (F = Pu.sweeps s R m ∧ Pu.sweep s R (F, false) = (F, false)) := ⟨hF, hst rfl⟩
      clear hst hF
      go_wp2_with fail
      go_ret
      exact ⟨hFr.bel, gs, F, rfl, n1, hFr.set, m, A.out.1, A.out.2⟩
    | true =>
      have A : Aside (F = Pu.sweeps s R m) := hF
      clear hst hF
      have hcn' : 2 * Pu.cnt F + 1 ≤ gk := hcn
      clear hcn
      go_wp2_with fail
      go_loopg [5, 18] R.length (fun n ag iv wi => ∃ (k : Nat) (G : Nat → Bool) (b : Bool), ag = .bool b ∧ iv = .int .i64 k ∧ k ≤ R.length ∧ n = R.length - k ∧ Fert w wi q g cap B gs fb w.heap.size s R L G ∧ Pu.sweep s R (F, false) = Pu.sweep s (R.drop k) (G, b))
      case atStart => exact ⟨0, F, false, rfl, rfl, Nat.zero_le _, rfl, hFr, rfl⟩
      case round =>
        clear hFr cf cx c0
        obtain ⟨k, G, b, rfl, rfl, hk, rfl, hFi, hsw⟩ := hrel
        have HS := aside_of hsw
        clear hsw
        by_cases hkl : k < R.length
        · obtain ⟨h65, h90, hr1, hr2⟩ := hG R[k] (List.getElem_mem hkl)
          obtain ⟨hc0, hc1, hc2⟩ := hFi.gr.rules k hkl
          have hmem : R[k] ∈ R := List.getElem_mem hkl
          have HD := aside_of (sweep_drop (s := s) hkl G b)
          generalize R[k] = r at *
          have hcL : Pu.byt s r.1 ∈ L := by rw [HL.out]; exact mem_names (Pu.has_of hmem)
          have hc256 := Pu.byt_lt s r.1
          by_cases hgr : Pu.grows s G r = true
          · have HGR := hide hgr
            have HX : Aside (Pu.sweep s R (F, false) = Pu.sweep s (R.drop (k + 1)) (Pu.add G (Pu.byt s r.1), true)) := by
              show _ = _
              rw [HS.out, HD.out, if_pos hgr]
            have hcall : ∀ V, Fert w V q g cap B gs fb w.heap.size s R L G → Calls Tryd.prog 78 #[.agg #[.int .u8 ↑(Pu.byt s r.1), .string (sub s (r.1 + 2) r.2), .int .i64 r.1], .pointer (some ⟨fb, 0, none⟩), .pointer (some ⟨w.heap.size, 0, none⟩)] V fun e w' => e = .returned (.bool true) ∧ Below V.heap.size V w' := by
              intro V hV
              have h1 := hV.gr; have h2 := hV.set; have h3 := hV.cf
              rw [HL.out] at h1 h2 h3
              exact grows_rule q g cap B gs fb w.heap.size s R G r true V HGR h1 h2 h3 hV.cx hmem hr2 hs hC
            have HCALL := hide hcall
            clear HS HD hgr hcall
            generalize hcc : Pu.byt s r.1 = c at *
            generalize sub s (r.1 + 2) r.2 = t at *
            clear h65 h90 hr1 hr2 hmem hcc
            have hgl : gs < wr.heap.size := by obtain ⟨cs, hh, _⟩ := hFi.set; exact (Array.getElem?_eq_some_iff.1 hh).1
            go_wp2_with (go_at_call 78; refine (HCALL.out _ (hFi.alloc _)).mono ?_; rintro e w4 ⟨rfl, hb4⟩)
            have hF4 := (hFi.alloc _).below hb4
            have cr4 : w4.cell? ⟨wr.heap.size, 0, none⟩ = some (.int .u8 c) := by rw [hb4.cell (by simp)]; simp
            have cf4 := hF4.cf
            have cx4 := hF4.cx
            have cs4 := hF4.set.at hcL
            have fz4 := hF4.set.frozen (L.idxOf c)
            have hix := idx_lt hcL
            have HP := hide (fun (V : World) (h : Fert w V q g cap B gs fb w.heap.size s R L G) => h.put hcL n1 n2 n3 n4 n5 n6)
            have NB := hide (fun (V : World) (h : Fert w V q g cap B gs fb w.heap.size s R L G) => Number_any q g cap B s R L c V h.gr hc256 hcL)
            have e1 : ¬ gs = fb := fun e => n2 e.symm
            have e2 : ¬ gs = w.heap.size := fun e => n3 e.symm
            have e3 : ¬ gs = wr.heap.size := by omega
            have e4 : ¬ wr.heap.size = gs := by omega
            generalize L.idxOf c = ix at *
            have b3 : (0 : Int) ≤ (ix : Int) := by omega
            have b4 : (ix : Int) < (L.length : Int) := by omega
            clear hb4 hFi hc0 hc1 hc2 HCALL
            go_region_held3 (fun w' => w'.cell? ⟨fb, 0, none⟩ = some (.slice (some ⟨gs, 0, none⟩) L.length L.length) ∧ w'.cell? ⟨w.heap.size, 0, none⟩ = some (.pointer (some ⟨q, 0, none⟩)) ∧ w'.cell? ⟨wr.heap.size, 0, none⟩ = some (.int .u8 c)) (go_keep) ((go_at_call 62; refine (NB.out _ ?_).mono ?_; exact hF4.drew; rintro e w5 ⟨rfl, rfl⟩))
            all_goals
              go_wp2_with fail
              go_roundg (R.length - (k + 1))
              case measure => omega
              case rel => exact ⟨k + 1, Pu.add G c, true, rfl, by go_num, by omega, rfl, HP.out _ hF4.drew, HX.out⟩
          · have HGR : Hid (Pu.grows s G r = false) := by show _ = _; simpa using hgr
            have HX : Aside (Pu.sweep s R (F, false) = Pu.sweep s (R.drop (k + 1)) (G, b)) := by
              show _ = _
              rw [HS.out, HD.out, if_neg hgr]
            have hcall : ∀ V, Fert w V q g cap B gs fb w.heap.size s R L G → Calls Tryd.prog 78 #[.agg #[.int .u8 ↑(Pu.byt s r.1), .string (sub s (r.1 + 2) r.2), .int .i64 r.1], .pointer (some ⟨fb, 0, none⟩), .pointer (some ⟨w.heap.size, 0, none⟩)] V fun e w' => e = .returned (.bool false) ∧ Below V.heap.size V w' := by
              intro V hV
              have h1 := hV.gr; have h2 := hV.set; have h3 := hV.cf
              rw [HL.out] at h1 h2 h3
              exact grows_rule q g cap B gs fb w.heap.size s R G r false V HGR h1 h2 h3 hV.cx hmem hr2 hs hC
            have HCALL := hide hcall
            clear HS HD hgr hcall
            generalize hcc : Pu.byt s r.1 = c at *
            generalize sub s (r.1 + 2) r.2 = t at *
            clear h65 h90 hr1 hr2 hmem hcc
            go_wp2_with (go_at_call 78; refine (HCALL.out _ (hFi.alloc _)).mono ?_; rintro e w4 ⟨rfl, hb4⟩)
            go_roundg (R.length - (k + 1))
            case measure => omega
            case rel => exact ⟨k + 1, G, b, rfl, by go_num, by omega, rfl, (hFi.alloc _).below hb4, HX.out⟩
        · have hd : R.drop k = [] := List.drop_eq_nil_of_le (by omega)
          have hsw := HS.out
          rw [hd] at hsw
          have hsw' : Pu.sweep s R (F, false) = (G, b) := hsw
          have hcnt := Pu.sweep_cnt s R F false hG
          rw [hsw'] at hcnt
          have HW : Aside (Pu.sweep s R (F, false) = (G, b) ∧ (b = false ∧ G = F ∨ b = true ∧ Pu.cnt G < Pu.cnt F)) := ⟨hsw', hcnt⟩
          clear hsw hsw' hcnt HS hd
          go_wp2_with fail
          go_roundg (2 * Pu.cnt G + b.toNat)
          case measure =>
            rcases HW.out.2 with ⟨rfl, rfl⟩ | ⟨rfl, h⟩
            · simp; omega
            · simp; omega
          case rel =>
            obtain ⟨hsw, hcnt⟩ := HW.out
            refine ⟨m + 1, G, b, rfl, hFi, ?_, ?_, Nat.le_refl _⟩
            · show G = (Pu.sweep s R (Pu.sweeps s R m, false)).1
              rw [← A.out, hsw]
            · rintro rfl
              rcases hcnt with ⟨_, rfl⟩ | ⟨h, _⟩
              · exact hsw
              · cases h
end Go.Proofs.YthmbbiahnfpoeaaDoor
