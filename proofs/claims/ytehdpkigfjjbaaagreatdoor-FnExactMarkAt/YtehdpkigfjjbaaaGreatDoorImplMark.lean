/-
  The program's mark and MarkAt: what they answer is what the specification's answer.
-/
import Derived.Test.YtehdpkigfjjbaaaGreatDoorImplRead3
import Derived.Defers
import Derived.Recover
import Derived.Laws.Pointers
namespace Go.Proofs.YtehdpkigfjjbaaaGreatDoor.cuts
open Go.ChangeShapes Go.WideShapes Go.ChangeAt Go.RowKit
open names (splitT nameE)
open marks (blanksE)
open pairs (Pair at0 PairsAt)
open trees (Rng Out Bset)
set_option linter.unusedVariables false
theorem m_up {r : Option (MarkV × Nat)} {s : ByteArray} {b : Nat} {ad : Option Addr} {n c : Nat} {w V0 V1 V5 : World} {e : Ending} {g : Nat} (h : mOk r s b ad n c V0 V1 e) (hg : g = w.heap.size) (hlt : g < V0.heap.size) (hne : g ≠ b) (hle : w.heap.size ≤ V0.heap.size) (ho : Out (fun b => b = g) V1 V5) : mOk r s b ad n c w V5 e := by
  cases r with
  | none => exact h
  | some y =>
    obtain ⟨m, j⟩ := y
    obtain ⟨⟨a', c', he, hown⟩, hr⟩ := h
    refine ⟨⟨a', c', he, (hown.out ho (fun x hx hc => by have := hx.1; have hc' : x = g := hc; omega)).sub (fun x hx => ⟨Nat.le_trans hle hx.1, Nat.lt_of_lt_of_le hx.2 ho.size⟩)⟩, ⟨(ho.block b hr.lt (fun e => hne e.symm)).trans hr.blk⟩⟩
/-- What came is a mark's five values, or it gave up. -/
theorem m_shape {r : Option (MarkV × Nat)} {s : ByteArray} {b : Nat} {ad : Option Addr} {n c : Nat} {w W : World} {e : Ending} (h : mOk r s b ad n c w W e) : (r = none ∧ gaveUp e) ∨ ∃ m j a' c', r = some (m, j) ∧ e = .returned (.agg #[.int .i64 m.kind, .string m.name, .slice a' m.raws.length c', .bool m.empty, .string m.text]) := by
  cases r with
  | none => exact .inl ⟨rfl, h⟩
  | some y =>
    obtain ⟨m, j⟩ := y
    obtain ⟨⟨a', c', he, _⟩, _⟩ := h
    exact .inr ⟨m, j, a', c', rfl, he⟩
theorem outg (W : World) (g : Nat) (u0 u1 u2 u3 u4 : Value) : Out (fun b => b = g) W (((((W.setCell ⟨g, 0, none⟩ u0).setCell ⟨g, 1, none⟩ u1).setCell ⟨g, 2, none⟩ u2).setCell ⟨g, 3, none⟩ u3).setCell ⟨g, 4, none⟩ u4) :=
  (((((Out.refl (fun b => b = g) W).set (F := fun b => b = g) rfl _ _).set (F := fun b => b = g) rfl _ _).set (F := fun b => b = g) rfl _ _).set (F := fun b => b = g) rfl _ _).set (F := fun b => b = g) rfl _ _
theorem chk_up {s t x : ByteArray} {a j : Nat} {k : Int} (hj : toI s t a = some j) (hx : s.extract a j = x) (hb : refs.textB x = true) : chk (upE s t a k) = some (⟨k, ⟨#[]⟩, [], false, x⟩, j + t.size) := by
  subst hx
  exact chk_yes (up_some hj) hb
theorem chk_upno {s t x : ByteArray} {a j : Nat} {k : Int} (hj : toI s t a = some j) (hx : s.extract a j = x) (hb : refs.textB x = false) : chk (upE s t a k) = none := by
  subst hx
  exact chk_no (up_some hj) hb
set_option maxRecDepth 100000 in
set_option maxHeartbeats 8000000 in
theorem rd_mark (s : ByteArray) (a b : Nat) (w0 : World) (ad : Option Addr) (L : List Pair) (c : Nat) (w : World) (hs : s.size ≤ 1048576) (hv : ∀ i, i < L.length → (at0 L i).2.size ≤ 1048576) (ha : a < s.size) (hE : Env w0 w b ad L) (hR : Rm w b s a ad L.length c) : Calls Tryz.prog 21 #[.pointer (some ⟨b, 0, none⟩)] w fun e w' => mOk (markT s a L) s b ad L.length c w w' e ∧ w.grownBy w' (some b) := by
  have HE0 : Hid (Env w0 w b ad L) := hE
  have HR0 : Hid (Rm w b s a ad L.length c) := hR
  have hbl := hR.lt
  have hne : w.heap.size ≠ b := by omega
  rw [markT_chk]
  obtain ⟨M, hM⟩ : ∃ M, chk (markE s a L) = M := ⟨_, rfl⟩
  rw [hM]
  have HE : Hid (chk (markE s a L) = M) := hM
  have HV : Hid _ := hv
  clear hM hE hR hv
  unfold markE at HE
  have hal : a ≤ s.size := Nat.le_of_lt ha
  cases b1 : isAt s ⟨#[60, 33, 45, 45]⟩ a
  · have H1 : Hid (∀ W, Env w0 W b ad L → Rm W b s a ad L.length c → _) := fun W h1 h2 => take_H _ s ⟨#[60, 33, 45, 45]⟩ a b _ W hs hal (by decide) false a b1 rfl h2
    rw [b1, if_neg (by decide)] at HE
    cases b2 : isAt s ⟨#[60, 63]⟩ a
    · have H2 : Hid (∀ W, Env w0 W b ad L → Rm W b s a ad L.length c → _) := fun W h1 h2 => take_H _ s ⟨#[60, 63]⟩ a b _ W hs hal (by decide) false a b2 rfl h2
      rw [b2, if_neg (by decide)] at HE
      cases b3 : isAt s ⟨#[60, 47]⟩ a
      · have H3 : Hid (∀ W, Env w0 W b ad L → Rm W b s a ad L.length c → _) := fun W h1 h2 => take_H _ s ⟨#[60, 47]⟩ a b _ W hs hal (by decide) false a b3 rfl h2
        rw [b3, if_neg (by decide)] at HE
        cases b4 : isAt s ⟨#[60, 33, 91, 67, 68, 65, 84, 65, 91]⟩ a
        · have H4 : Hid (∀ W, Env w0 W b ad L → Rm W b s a ad L.length c → _) := fun W h1 h2 => take_H _ s ⟨#[60, 33, 91, 67, 68, 65, 84, 65, 91]⟩ a b _ W hs hal (by decide) false a b4 rfl h2
          rw [b4, if_neg (by decide)] at HE
          cases b5 : isAt s ⟨#[60]⟩ a
          · have H5 : Hid (∀ W, Env w0 W b ad L → Rm W b s a ad L.length c → _) := fun W h1 h2 => take_H _ s ⟨#[60]⟩ a b _ W hs hal (by decide) false a b5 rfl h2
            rw [b5, if_neg (by decide)] at HE
            have H6 : Hid (∀ W, Env w0 W b ad L → Rm W b s a ad L.length c → _) := fun W h1 h2 => rd_between s a b w0 ad L c W hs HV.out hal h1 h2
            rw [HE.out] at H6
            clear b1 b2 b3 b4 b5
            go_enter Tryz.func21, Tryz.ntmps21
            go_wp2_with fail
            refine Calls.mono (H1.out _ (HE0.out.below ((Below.refl _ _).alloc (Nat.le_refl _) _)) (HR0.out.below ((Below.refl _ _).alloc (Nat.le_refl _) _))) ?_
            rintro e w1 ⟨rfl, hr, hg⟩
            have HR1 : Hid _ := hr
            have HG1 : Hid (w.grownBy w1 (some b)) := gr_from hg
            have HX1 : Hid _ := gr_obj hg (heap_alloc_new w _) hne
            clear hg hr
            go_wp2_with fail
            refine Calls.mono (H2.out _ (HE0.out.step HG1.out) HR1.out) ?_
            rintro e w2 ⟨rfl, hr, hg⟩
            have HR2 : Hid _ := hr
            have HG2 : Hid (w.grownBy w2 (some b)) := gr_trans HG1.out hg
            have HX2 : Hid _ := gr_obj hg HX1.out hne
            clear hg hr
            go_wp2_with fail
            refine Calls.mono (H3.out _ (HE0.out.step HG2.out) HR2.out) ?_
            rintro e w3 ⟨rfl, hr, hg⟩
            have HR3 : Hid _ := hr
            have HG3 : Hid (w.grownBy w3 (some b)) := gr_trans HG2.out hg
            have HX3 : Hid _ := gr_obj hg HX2.out hne
            clear hg hr
            go_wp2_with fail
            refine Calls.mono (H4.out _ (HE0.out.step HG3.out) HR3.out) ?_
            rintro e w4 ⟨rfl, hr, hg⟩
            have HR4 : Hid _ := hr
            have HG4 : Hid (w.grownBy w4 (some b)) := gr_trans HG3.out hg
            have HX4 : Hid _ := gr_obj hg HX3.out hne
            clear hg hr
            go_wp2_with fail
            refine Calls.mono (H5.out _ (HE0.out.step HG4.out) HR4.out) ?_
            rintro e w5 ⟨rfl, hr, hg⟩
            have HR5 : Hid _ := hr
            have HG5 : Hid (w.grownBy w5 (some b)) := gr_trans HG4.out hg
            have HX5 : Hid _ := gr_obj hg HX4.out hne
            clear hg hr
            go_wp2_with fail
            refine Calls.mono (H6.out _ (HE0.out.step HG5.out) HR5.out) ?_
            rintro e w9 ⟨he, hg⟩
            have HG9 : Hid (w.grownBy w9 (some b)) := gr_trans HG5.out hg
            have HX9 : Hid _ := gr_obj hg HX5.out hne
            obtain ⟨o0v, o1v, o2v, o3v, o4v, hX9⟩ : ∃ u0 u1 u2 u3 u4, True ∧ w9.heap[w.heap.size]? = some (.cells #[u0, u1, u2, u3, u4] 26 (0, 0)) := ⟨_, _, _, _, _, trivial, HX9.out⟩
            clear o0v o1v o2v o3v o4v hX9
            have hgt : w.heap.size < w5.heap.size := lt_heap HX5.out
            rcases m_shape he with ⟨hr, he2⟩ | ⟨m, j, a', c', hr, he2⟩
            · have he3 : e = .panicked [{ v := .iface 9 (.string ⟨#[105, 116, 32, 100, 111, 101, 115, 32, 110, 111, 116, 32, 103, 111, 32, 111, 110, 32, 115, 111]⟩), recovered := false }] := he2
              subst he3
              have HN : Hid (M = none) := hr
              clear he he2 hr hg
              go_wp2
              exact ⟨rfl, m_none HN.out rfl, HG9.out⟩
            · have HMK : Hid _ := he
              subst he2
              clear he hr hg
              obtain ⟨⟨o0, o1, o2, o3, o4⟩, q0, q1, q2, q3, q4⟩ := box5 HX9.out
              go_wp2
              refine bodyPost_ret (by simp [results, Tryz.results21, go_sem, o0, o1, o2, o3, o4]; try rfl) rfl ?_
              exact ⟨m_up HMK.out rfl hgt hne (Nat.le_of_lt hgt) (outg _ _ _ _ _ _ _), gr_five HG9.out (Nat.le_refl _)⟩
          · have hle : a + 1 ≤ s.size := isAt_le b5
            have H5 : Hid (∀ W, Env w0 W b ad L → Rm W b s a ad L.length c → _) := fun W h1 h2 => take_H _ s ⟨#[60]⟩ a b _ W hs hal (by decide) true (a + 1) b5 rfl h2
            rw [b5, if_pos rfl] at HE
            have H6 : Hid (∀ W, Env w0 W b ad L → Rm W b s (a + 1) ad L.length c → _) := fun W h1 h2 => rd_opening s a b w0 ad L c W hs HV.out hle h1 h2
            rw [HE.out] at H6
            clear b1 b2 b3 b4 b5
            go_enter Tryz.func21, Tryz.ntmps21
            go_wp2_with fail
            refine Calls.mono (H1.out _ (HE0.out.below ((Below.refl _ _).alloc (Nat.le_refl _) _)) (HR0.out.below ((Below.refl _ _).alloc (Nat.le_refl _) _))) ?_
            rintro e w1 ⟨rfl, hr, hg⟩
            have HR1 : Hid _ := hr
            have HG1 : Hid (w.grownBy w1 (some b)) := gr_from hg
            have HX1 : Hid _ := gr_obj hg (heap_alloc_new w _) hne
            clear hg hr
            go_wp2_with fail
            refine Calls.mono (H2.out _ (HE0.out.step HG1.out) HR1.out) ?_
            rintro e w2 ⟨rfl, hr, hg⟩
            have HR2 : Hid _ := hr
            have HG2 : Hid (w.grownBy w2 (some b)) := gr_trans HG1.out hg
            have HX2 : Hid _ := gr_obj hg HX1.out hne
            clear hg hr
            go_wp2_with fail
            refine Calls.mono (H3.out _ (HE0.out.step HG2.out) HR2.out) ?_
            rintro e w3 ⟨rfl, hr, hg⟩
            have HR3 : Hid _ := hr
            have HG3 : Hid (w.grownBy w3 (some b)) := gr_trans HG2.out hg
            have HX3 : Hid _ := gr_obj hg HX2.out hne
            clear hg hr
            go_wp2_with fail
            refine Calls.mono (H4.out _ (HE0.out.step HG3.out) HR3.out) ?_
            rintro e w4 ⟨rfl, hr, hg⟩
            have HR4 : Hid _ := hr
            have HG4 : Hid (w.grownBy w4 (some b)) := gr_trans HG3.out hg
            have HX4 : Hid _ := gr_obj hg HX3.out hne
            clear hg hr
            go_wp2_with fail
            refine Calls.mono (H5.out _ (HE0.out.step HG4.out) HR4.out) ?_
            rintro e w5 ⟨rfl, hr, hg⟩
            have HR5 : Hid _ := hr
            have HG5 : Hid (w.grownBy w5 (some b)) := gr_trans HG4.out hg
            have HX5 : Hid _ := gr_obj hg HX4.out hne
            clear hg hr
            go_wp2_with fail
            refine Calls.mono (H6.out _ (HE0.out.step HG5.out) HR5.out) ?_
            rintro e w9 ⟨he, hg⟩
            have HG9 : Hid (w.grownBy w9 (some b)) := gr_trans HG5.out hg
            have HX9 : Hid _ := gr_obj hg HX5.out hne
            obtain ⟨o0v, o1v, o2v, o3v, o4v, hX9⟩ : ∃ u0 u1 u2 u3 u4, True ∧ w9.heap[w.heap.size]? = some (.cells #[u0, u1, u2, u3, u4] 26 (0, 0)) := ⟨_, _, _, _, _, trivial, HX9.out⟩
            clear o0v o1v o2v o3v o4v hX9
            have hgt : w.heap.size < w5.heap.size := lt_heap HX5.out
            rcases m_shape he with ⟨hr, he2⟩ | ⟨m, j, a', c', hr, he2⟩
            · have he3 : e = .panicked [{ v := .iface 9 (.string ⟨#[105, 116, 32, 100, 111, 101, 115, 32, 110, 111, 116, 32, 103, 111, 32, 111, 110, 32, 115, 111]⟩), recovered := false }] := he2
              subst he3
              have HN : Hid (M = none) := hr
              clear he he2 hr hg
              go_wp2
              exact ⟨rfl, m_none HN.out rfl, HG9.out⟩
            · have HMK : Hid _ := he
              subst he2
              clear he hr hg
              obtain ⟨⟨o0, o1, o2, o3, o4⟩, q0, q1, q2, q3, q4⟩ := box5 HX9.out
              go_wp2
              refine bodyPost_ret (by simp [results, Tryz.results21, go_sem, o0, o1, o2, o3, o4]; try rfl) rfl ?_
              exact ⟨m_up HMK.out rfl hgt hne (Nat.le_of_lt hgt) (outg _ _ _ _ _ _ _), gr_five HG9.out (Nat.le_refl _)⟩
        · have hle : a + 9 ≤ s.size := isAt_le b4
          have H4 : Hid (∀ W, Env w0 W b ad L → Rm W b s a ad L.length c → _) := fun W h1 h2 => take_H _ s ⟨#[60, 33, 91, 67, 68, 65, 84, 65, 91]⟩ a b _ W hs hal (by decide) true (a + 9) b4 rfl h2
          rw [b4, if_pos rfl] at HE
          cases hj : toI s ⟨#[93, 93, 62]⟩ (a + 9) with
          | none =>
            have H6 : Hid (∀ W, Env w0 W b ad L → Rm W b s (a + 9) ad L.length c → _) := fun W h1 h2 => txt_miss hs hle (by decide) hj h1 h2
            have HN : Hid (M = none) := HE.out.symm.trans (chk_none (up_none hj))
            clear b1 b2 b3 b4 hj
            go_enter Tryz.func21, Tryz.ntmps21
            go_wp2_with fail
            refine Calls.mono (H1.out _ (HE0.out.below ((Below.refl _ _).alloc (Nat.le_refl _) _)) (HR0.out.below ((Below.refl _ _).alloc (Nat.le_refl _) _))) ?_
            rintro e w1 ⟨rfl, hr, hg⟩
            have HR1 : Hid _ := hr
            have HG1 : Hid (w.grownBy w1 (some b)) := gr_from hg
            have HX1 : Hid _ := gr_obj hg (heap_alloc_new w _) hne
            clear hg hr
            go_wp2_with fail
            refine Calls.mono (H2.out _ (HE0.out.step HG1.out) HR1.out) ?_
            rintro e w2 ⟨rfl, hr, hg⟩
            have HR2 : Hid _ := hr
            have HG2 : Hid (w.grownBy w2 (some b)) := gr_trans HG1.out hg
            have HX2 : Hid _ := gr_obj hg HX1.out hne
            clear hg hr
            go_wp2_with fail
            refine Calls.mono (H3.out _ (HE0.out.step HG2.out) HR2.out) ?_
            rintro e w3 ⟨rfl, hr, hg⟩
            have HR3 : Hid _ := hr
            have HG3 : Hid (w.grownBy w3 (some b)) := gr_trans HG2.out hg
            have HX3 : Hid _ := gr_obj hg HX2.out hne
            clear hg hr
            go_wp2_with fail
            refine Calls.mono (H4.out _ (HE0.out.step HG3.out) HR3.out) ?_
            rintro e w4 ⟨rfl, hr, hg⟩
            have HR4 : Hid _ := hr
            have HG4 : Hid (w.grownBy w4 (some b)) := gr_trans HG3.out hg
            have HX4 : Hid _ := gr_obj hg HX3.out hne
            clear hg hr
            go_wp2_with fail
            refine Calls.mono (H6.out _ (HE0.out.step HG4.out) HR4.out) ?_
            rintro e w5 ⟨rfl, hg⟩
            have HG5 : Hid (w.grownBy w5 (some b)) := gr_trans HG4.out hg
            clear hg
            go_wp2
            exact ⟨rfl, m_none HN.out rfl, HG5.out⟩
          | some j =>
            obtain ⟨x, hx⟩ : ∃ x, s.extract (a + 9) j = x := ⟨_, rfl⟩
            cases hb : refs.textB x
            · have H6 : Hid (∀ W, Env w0 W b ad L → Rm W b s (a + 9) ad L.length c → _) := fun W h1 h2 => txt_long hs hle (by decide) hj hx hb h1 h2
              have HN : Hid (M = none) := HE.out.symm.trans (chk_upno hj hx hb)
              clear b1 b2 b3 b4 hj hx hb
              go_enter Tryz.func21, Tryz.ntmps21
              go_wp2_with fail
              refine Calls.mono (H1.out _ (HE0.out.below ((Below.refl _ _).alloc (Nat.le_refl _) _)) (HR0.out.below ((Below.refl _ _).alloc (Nat.le_refl _) _))) ?_
              rintro e w1 ⟨rfl, hr, hg⟩
              have HR1 : Hid _ := hr
              have HG1 : Hid (w.grownBy w1 (some b)) := gr_from hg
              have HX1 : Hid _ := gr_obj hg (heap_alloc_new w _) hne
              clear hg hr
              go_wp2_with fail
              refine Calls.mono (H2.out _ (HE0.out.step HG1.out) HR1.out) ?_
              rintro e w2 ⟨rfl, hr, hg⟩
              have HR2 : Hid _ := hr
              have HG2 : Hid (w.grownBy w2 (some b)) := gr_trans HG1.out hg
              have HX2 : Hid _ := gr_obj hg HX1.out hne
              clear hg hr
              go_wp2_with fail
              refine Calls.mono (H3.out _ (HE0.out.step HG2.out) HR2.out) ?_
              rintro e w3 ⟨rfl, hr, hg⟩
              have HR3 : Hid _ := hr
              have HG3 : Hid (w.grownBy w3 (some b)) := gr_trans HG2.out hg
              have HX3 : Hid _ := gr_obj hg HX2.out hne
              clear hg hr
              go_wp2_with fail
              refine Calls.mono (H4.out _ (HE0.out.step HG3.out) HR3.out) ?_
              rintro e w4 ⟨rfl, hr, hg⟩
              have HR4 : Hid _ := hr
              have HG4 : Hid (w.grownBy w4 (some b)) := gr_trans HG3.out hg
              have HX4 : Hid _ := gr_obj hg HX3.out hne
              clear hg hr
              go_wp2_with fail
              refine Calls.mono (H6.out _ (HE0.out.step HG4.out) HR4.out) ?_
              rintro e w5 ⟨rfl, hg⟩
              have HG5 : Hid (w.grownBy w5 (some b)) := gr_trans HG4.out hg
              clear hg
              go_wp2
              exact ⟨rfl, m_none HN.out rfl, HG5.out⟩
            · have H6 : Hid (∀ W, Env w0 W b ad L → Rm W b s (a + 9) ad L.length c → _) := fun W h1 h2 => txt_some hs hle (by decide) hj hx hb h1 h2
              have HN : Hid (M = some (⟨3, ⟨#[]⟩, [], false, x⟩, j + 3)) := HE.out.symm.trans (chk_up hj hx hb)
              clear b1 b2 b3 b4 hj hx hb
              go_enter Tryz.func21, Tryz.ntmps21
              go_wp2_with fail
              refine Calls.mono (H1.out _ (HE0.out.below ((Below.refl _ _).alloc (Nat.le_refl _) _)) (HR0.out.below ((Below.refl _ _).alloc (Nat.le_refl _) _))) ?_
              rintro e w1 ⟨rfl, hr, hg⟩
              have HR1 : Hid _ := hr
              have HG1 : Hid (w.grownBy w1 (some b)) := gr_from hg
              have HX1 : Hid _ := gr_obj hg (heap_alloc_new w _) hne
              clear hg hr
              go_wp2_with fail
              refine Calls.mono (H2.out _ (HE0.out.step HG1.out) HR1.out) ?_
              rintro e w2 ⟨rfl, hr, hg⟩
              have HR2 : Hid _ := hr
              have HG2 : Hid (w.grownBy w2 (some b)) := gr_trans HG1.out hg
              have HX2 : Hid _ := gr_obj hg HX1.out hne
              clear hg hr
              go_wp2_with fail
              refine Calls.mono (H3.out _ (HE0.out.step HG2.out) HR2.out) ?_
              rintro e w3 ⟨rfl, hr, hg⟩
              have HR3 : Hid _ := hr
              have HG3 : Hid (w.grownBy w3 (some b)) := gr_trans HG2.out hg
              have HX3 : Hid _ := gr_obj hg HX2.out hne
              clear hg hr
              go_wp2_with fail
              refine Calls.mono (H4.out _ (HE0.out.step HG3.out) HR3.out) ?_
              rintro e w4 ⟨rfl, hr, hg⟩
              have HR4 : Hid _ := hr
              have HG4 : Hid (w.grownBy w4 (some b)) := gr_trans HG3.out hg
              have HX4 : Hid _ := gr_obj hg HX3.out hne
              clear hg hr
              go_wp2_with fail
              refine Calls.mono (H6.out _ (HE0.out.step HG4.out) HR4.out) ?_
              rintro e w5 ⟨rfl, hr, hg⟩
              have HR5 : Hid _ := hr
              have HG5 : Hid (w.grownBy w5 (some b)) := gr_trans HG4.out hg
              have HX5 : Hid _ := gr_obj hg HX4.out hne
              clear hg hr
              obtain ⟨⟨o0, o1, o2, o3, o4⟩, q0, q1, q2, q3, q4⟩ := box5 HX5.out
              go_wp2
              refine bodyPost_ret (by simp [results, Tryz.results21, go_sem, o0, o1, o2, o3, o4]; try rfl) rfl ?_
              exact ⟨m_plain HN.out rfl (rd_five HR5.out hne), gr_five HG5.out (Nat.le_refl _)⟩
      · have hle : a + 2 ≤ s.size := isAt_le b3
        have H3 : Hid (∀ W, Env w0 W b ad L → Rm W b s a ad L.length c → _) := fun W h1 h2 => take_H _ s ⟨#[60, 47]⟩ a b _ W hs hal (by decide) true (a + 2) b3 rfl h2
        rw [b3, if_pos rfl] at HE
        have H6 : Hid (∀ W, Env w0 W b ad L → Rm W b s (a + 2) ad L.length c → _) := fun W h1 h2 => rd_closing s a b w0 ad L c W hs HV.out hle h1 h2
        rw [HE.out] at H6
        clear b1 b2 b3
        go_enter Tryz.func21, Tryz.ntmps21
        go_wp2_with fail
        refine Calls.mono (H1.out _ (HE0.out.below ((Below.refl _ _).alloc (Nat.le_refl _) _)) (HR0.out.below ((Below.refl _ _).alloc (Nat.le_refl _) _))) ?_
        rintro e w1 ⟨rfl, hr, hg⟩
        have HR1 : Hid _ := hr
        have HG1 : Hid (w.grownBy w1 (some b)) := gr_from hg
        have HX1 : Hid _ := gr_obj hg (heap_alloc_new w _) hne
        clear hg hr
        go_wp2_with fail
        refine Calls.mono (H2.out _ (HE0.out.step HG1.out) HR1.out) ?_
        rintro e w2 ⟨rfl, hr, hg⟩
        have HR2 : Hid _ := hr
        have HG2 : Hid (w.grownBy w2 (some b)) := gr_trans HG1.out hg
        have HX2 : Hid _ := gr_obj hg HX1.out hne
        clear hg hr
        go_wp2_with fail
        refine Calls.mono (H3.out _ (HE0.out.step HG2.out) HR2.out) ?_
        rintro e w3 ⟨rfl, hr, hg⟩
        have HR3 : Hid _ := hr
        have HG3 : Hid (w.grownBy w3 (some b)) := gr_trans HG2.out hg
        have HX3 : Hid _ := gr_obj hg HX2.out hne
        clear hg hr
        go_wp2_with fail
        refine Calls.mono (H6.out _ (HE0.out.step HG3.out) HR3.out) ?_
        rintro e w9 ⟨he, hg⟩
        have HG9 : Hid (w.grownBy w9 (some b)) := gr_trans HG3.out hg
        have HX9 : Hid _ := gr_obj hg HX3.out hne
        obtain ⟨o0v, o1v, o2v, o3v, o4v, hX9⟩ : ∃ u0 u1 u2 u3 u4, True ∧ w9.heap[w.heap.size]? = some (.cells #[u0, u1, u2, u3, u4] 26 (0, 0)) := ⟨_, _, _, _, _, trivial, HX9.out⟩
        clear o0v o1v o2v o3v o4v hX9
        have hgt : w.heap.size < w3.heap.size := lt_heap HX3.out
        rcases m_shape he with ⟨hr, he2⟩ | ⟨m, j, a', c', hr, he2⟩
        · have he3 : e = .panicked [{ v := .iface 9 (.string ⟨#[105, 116, 32, 100, 111, 101, 115, 32, 110, 111, 116, 32, 103, 111, 32, 111, 110, 32, 115, 111]⟩), recovered := false }] := he2
          subst he3
          have HN : Hid (M = none) := hr
          clear he he2 hr hg
          go_wp2
          exact ⟨rfl, m_none HN.out rfl, HG9.out⟩
        · have HMK : Hid _ := he
          subst he2
          clear he hr hg
          obtain ⟨⟨o0, o1, o2, o3, o4⟩, q0, q1, q2, q3, q4⟩ := box5 HX9.out
          go_wp2
          refine bodyPost_ret (by simp [results, Tryz.results21, go_sem, o0, o1, o2, o3, o4]; try rfl) rfl ?_
          exact ⟨m_up HMK.out rfl hgt hne (Nat.le_of_lt hgt) (outg _ _ _ _ _ _ _), gr_five HG9.out (Nat.le_refl _)⟩
    · have hle : a + 2 ≤ s.size := isAt_le b2
      have H2 : Hid (∀ W, Env w0 W b ad L → Rm W b s a ad L.length c → _) := fun W h1 h2 => take_H _ s ⟨#[60, 63]⟩ a b _ W hs hal (by decide) true (a + 2) b2 rfl h2
      rw [b2, if_pos rfl] at HE
      have H6 : Hid (∀ W, Env w0 W b ad L → Rm W b s (a + 2) ad L.length c → _) := fun W h1 h2 => rd_told s a b w0 ad L c W hs HV.out hle h1 h2
      rw [HE.out] at H6
      clear b1 b2
      go_enter Tryz.func21, Tryz.ntmps21
      go_wp2_with fail
      refine Calls.mono (H1.out _ (HE0.out.below ((Below.refl _ _).alloc (Nat.le_refl _) _)) (HR0.out.below ((Below.refl _ _).alloc (Nat.le_refl _) _))) ?_
      rintro e w1 ⟨rfl, hr, hg⟩
      have HR1 : Hid _ := hr
      have HG1 : Hid (w.grownBy w1 (some b)) := gr_from hg
      have HX1 : Hid _ := gr_obj hg (heap_alloc_new w _) hne
      clear hg hr
      go_wp2_with fail
      refine Calls.mono (H2.out _ (HE0.out.step HG1.out) HR1.out) ?_
      rintro e w2 ⟨rfl, hr, hg⟩
      have HR2 : Hid _ := hr
      have HG2 : Hid (w.grownBy w2 (some b)) := gr_trans HG1.out hg
      have HX2 : Hid _ := gr_obj hg HX1.out hne
      clear hg hr
      go_wp2_with fail
      refine Calls.mono (H6.out _ (HE0.out.step HG2.out) HR2.out) ?_
      rintro e w9 ⟨he, hg⟩
      have HG9 : Hid (w.grownBy w9 (some b)) := gr_trans HG2.out hg
      have HX9 : Hid _ := gr_obj hg HX2.out hne
      obtain ⟨o0v, o1v, o2v, o3v, o4v, hX9⟩ : ∃ u0 u1 u2 u3 u4, True ∧ w9.heap[w.heap.size]? = some (.cells #[u0, u1, u2, u3, u4] 26 (0, 0)) := ⟨_, _, _, _, _, trivial, HX9.out⟩
      clear o0v o1v o2v o3v o4v hX9
      have hgt : w.heap.size < w2.heap.size := lt_heap HX2.out
      rcases m_shape he with ⟨hr, he2⟩ | ⟨m, j, a', c', hr, he2⟩
      · have he3 : e = .panicked [{ v := .iface 9 (.string ⟨#[105, 116, 32, 100, 111, 101, 115, 32, 110, 111, 116, 32, 103, 111, 32, 111, 110, 32, 115, 111]⟩), recovered := false }] := he2
        subst he3
        have HN : Hid (M = none) := hr
        clear he he2 hr hg
        go_wp2
        exact ⟨rfl, m_none HN.out rfl, HG9.out⟩
      · have HMK : Hid _ := he
        subst he2
        clear he hr hg
        obtain ⟨⟨o0, o1, o2, o3, o4⟩, q0, q1, q2, q3, q4⟩ := box5 HX9.out
        go_wp2
        refine bodyPost_ret (by simp [results, Tryz.results21, go_sem, o0, o1, o2, o3, o4]; try rfl) rfl ?_
        exact ⟨m_up HMK.out rfl hgt hne (Nat.le_of_lt hgt) (outg _ _ _ _ _ _ _), gr_five HG9.out (Nat.le_refl _)⟩
  · have hle : a + 4 ≤ s.size := isAt_le b1
    have H1 : Hid (∀ W, Env w0 W b ad L → Rm W b s a ad L.length c → _) := fun W h1 h2 => take_H _ s ⟨#[60, 33, 45, 45]⟩ a b _ W hs hal (by decide) true (a + 4) b1 rfl h2
    rw [b1, if_pos rfl] at HE
    cases hj : toI s ⟨#[45, 45, 62]⟩ (a + 4) with
    | none =>
      have H6 : Hid (∀ W, Env w0 W b ad L → Rm W b s (a + 4) ad L.length c → _) := fun W h1 h2 => txt_miss hs hle (by decide) hj h1 h2
      have HN : Hid (M = none) := HE.out.symm.trans (chk_none (up_none hj))
      clear b1 hj
      go_enter Tryz.func21, Tryz.ntmps21
      go_wp2_with fail
      refine Calls.mono (H1.out _ (HE0.out.below ((Below.refl _ _).alloc (Nat.le_refl _) _)) (HR0.out.below ((Below.refl _ _).alloc (Nat.le_refl _) _))) ?_
      rintro e w1 ⟨rfl, hr, hg⟩
      have HR1 : Hid _ := hr
      have HG1 : Hid (w.grownBy w1 (some b)) := gr_from hg
      have HX1 : Hid _ := gr_obj hg (heap_alloc_new w _) hne
      clear hg hr
      go_wp2_with fail
      refine Calls.mono (H6.out _ (HE0.out.step HG1.out) HR1.out) ?_
      rintro e w2 ⟨rfl, hg⟩
      have HG2 : Hid (w.grownBy w2 (some b)) := gr_trans HG1.out hg
      clear hg
      go_wp2
      exact ⟨rfl, m_none HN.out rfl, HG2.out⟩
    | some j =>
      obtain ⟨x, hx⟩ : ∃ x, s.extract (a + 4) j = x := ⟨_, rfl⟩
      cases hb : refs.textB x
      · have H6 : Hid (∀ W, Env w0 W b ad L → Rm W b s (a + 4) ad L.length c → _) := fun W h1 h2 => txt_long hs hle (by decide) hj hx hb h1 h2
        have HN : Hid (M = none) := HE.out.symm.trans (chk_upno hj hx hb)
        clear b1 hj hx hb
        go_enter Tryz.func21, Tryz.ntmps21
        go_wp2_with fail
        refine Calls.mono (H1.out _ (HE0.out.below ((Below.refl _ _).alloc (Nat.le_refl _) _)) (HR0.out.below ((Below.refl _ _).alloc (Nat.le_refl _) _))) ?_
        rintro e w1 ⟨rfl, hr, hg⟩
        have HR1 : Hid _ := hr
        have HG1 : Hid (w.grownBy w1 (some b)) := gr_from hg
        have HX1 : Hid _ := gr_obj hg (heap_alloc_new w _) hne
        clear hg hr
        go_wp2_with fail
        refine Calls.mono (H6.out _ (HE0.out.step HG1.out) HR1.out) ?_
        rintro e w2 ⟨rfl, hg⟩
        have HG2 : Hid (w.grownBy w2 (some b)) := gr_trans HG1.out hg
        clear hg
        go_wp2
        exact ⟨rfl, m_none HN.out rfl, HG2.out⟩
      · have H6 : Hid (∀ W, Env w0 W b ad L → Rm W b s (a + 4) ad L.length c → _) := fun W h1 h2 => txt_some hs hle (by decide) hj hx hb h1 h2
        have HN : Hid (M = some (⟨4, ⟨#[]⟩, [], false, x⟩, j + 3)) := HE.out.symm.trans (chk_up hj hx hb)
        clear b1 hj hx hb
        go_enter Tryz.func21, Tryz.ntmps21
        go_wp2_with fail
        refine Calls.mono (H1.out _ (HE0.out.below ((Below.refl _ _).alloc (Nat.le_refl _) _)) (HR0.out.below ((Below.refl _ _).alloc (Nat.le_refl _) _))) ?_
        rintro e w1 ⟨rfl, hr, hg⟩
        have HR1 : Hid _ := hr
        have HG1 : Hid (w.grownBy w1 (some b)) := gr_from hg
        have HX1 : Hid _ := gr_obj hg (heap_alloc_new w _) hne
        clear hg hr
        go_wp2_with fail
        refine Calls.mono (H6.out _ (HE0.out.step HG1.out) HR1.out) ?_
        rintro e w2 ⟨rfl, hr, hg⟩
        have HR2 : Hid _ := hr
        have HG2 : Hid (w.grownBy w2 (some b)) := gr_trans HG1.out hg
        have HX2 : Hid _ := gr_obj hg HX1.out hne
        clear hg hr
        obtain ⟨⟨o0, o1, o2, o3, o4⟩, q0, q1, q2, q3, q4⟩ := box5 HX2.out
        go_wp2
        refine bodyPost_ret (by simp [results, Tryz.results21, go_sem, o0, o1, o2, o3, o4]; try rfl) rfl ?_
        exact ⟨m_plain HN.out rfl (rd_five HR2.out hne), gr_five HG2.out (Nat.le_refl _)⟩
end Go.Proofs.YtehdpkigfjjbaaaGreatDoor.cuts
