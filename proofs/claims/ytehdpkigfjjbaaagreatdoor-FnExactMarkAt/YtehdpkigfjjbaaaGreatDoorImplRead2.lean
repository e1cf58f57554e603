/-
  The program's reader of marks: what stands between quotes, expanded; one of what an element has; what is told, what closes, what stands between two marks.
-/
import Derived.Test.YtehdpkigfjjbaaaGreatDoorImplRead1
import Derived.Test.YtehdpkigfjjbaaaGreatDoorSpecMark
namespace Go.Proofs.YtehdpkigfjjbaaaGreatDoor.cuts
open Go.ChangeShapes Go.WideShapes Go.ChangeAt Go.RowKit
open names (splitT nameE)
open marks (blanksE)
open pairs (Pair at0 PairsAt)
open trees (Rng Out Bset)
set_option linter.unusedVariables false
/-- What val answers. -/
def valP (s : ByteArray) (k : Nat) (L : List Pair) : Option (ByteArray × Nat) :=
  match quoE s k with
  | none => none
  | some (x, j) => if (refs.expandR (unbl.plain x) L).2 = true then some ((refs.expandR (unbl.plain x) L).1, j) else none
theorem valP_none {s : ByteArray} {k : Nat} {L : List Pair} (h : quoE s k = none) : valP s k L = none := by unfold valP; rw [h]
theorem valP_some {s x y : ByteArray} {k j : Nat} {L : List Pair} (h : quoE s k = some (x, j)) (hy : refs.expandR (unbl.plain x) L = (y, true)) : valP s k L = some (y, j) := by unfold valP; rw [h]; simp only [hy, if_true]
theorem valP_bad {s x y : ByteArray} {k j : Nat} {L : List Pair} (h : quoE s k = some (x, j)) (hy : refs.expandR (unbl.plain x) L = (y, false)) : valP s k L = none := by unfold valP; rw [h]; simp only [hy]; rfl
theorem valP_valE (s : ByteArray) (k : Nat) (L : List Pair) : valP s k L = if isAt s ⟨#[34]⟩ k = true ∨ isAt s ⟨#[39]⟩ k = true then valE s k L else none := by
  unfold valP quoE valE
  by_cases hq : isAt s ⟨#[34]⟩ k = true ∨ isAt s ⟨#[39]⟩ k = true
  · rw [if_pos hq, if_pos hq]
    cases hj : toI s (s.extract k (k + 1)) (k + 1) with
    | none => rfl
    | some j =>
      simp only
      by_cases hh : trees.hasB (s.extract (k + 1) j) ⟨#[60]⟩ = false
      · rw [if_pos hh]
        simp only [hh, true_and]
      · rw [if_neg hh]
        rw [if_neg (fun h => hh h.1)]
  · rw [if_neg hq, if_neg hq]
theorem rawE_no {s : ByteArray} {a : Nat} {L : List Pair} (h : ¬ (splitT (s.extract a (nameE s a))).2.2 = true) : rawE s a L = none := by unfold rawE; rw [if_neg h]
theorem rawE_eq {s : ByteArray} {a f : Nat} {L : List Pair} (hf : blanksE s (nameE s a) = f) (h : isAt s ⟨#[61]⟩ f = false) : rawE s a L = none := by
  unfold rawE
  rw [hf, h]
  split <;> rfl
theorem rawE_val {s n : ByteArray} {a f g : Nat} {L : List Pair} (hok : (splitT n).2.2 = true) (hn : s.extract a (nameE s a) = n) (hf : blanksE s (nameE s a) = f) (h : isAt s ⟨#[61]⟩ f = true) (hg : blanksE s (f + 1) = g) : rawE s a L = match valP s g L with | none => none | some (x, j) => some (n, x, j) := by
  unfold rawE
  rw [hn, if_pos hok, hf, if_pos h, hg, valP_valE]
  by_cases hq : isAt s ⟨#[34]⟩ g = true ∨ isAt s ⟨#[39]⟩ g = true
  · rw [if_pos hq, if_pos hq]
    cases valE s g L with
    | none => rfl
    | some y => obtain ⟨x, j⟩ := y; rfl
  · rw [if_neg hq, if_neg hq]
theorem gr_obj {w w' : World} {b g : Nat} {o : Obj} (h : w.grownBy w' (some b)) (hx : w.heap[g]? = some o) (hne : g ≠ b) : w'.heap[g]? = some o := (h.block g (lt_heap hx) (fun e => hne (Option.some.inj e))).trans hx
theorem quoE_le {s x : ByteArray} {k j : Nat} (h : quoE s k = some (x, j)) (hs : s.size ≤ 1048576) : x.size ≤ 1048576 ∧ j ≤ s.size ∧ k < j := by
  unfold quoE at h
  split at h
  · rename_i hq
    have hk : k + 1 ≤ s.size := by
      rcases hq with hq | hq
      · exact isAt_le hq
      · exact isAt_le hq
    cases hj : toI s (s.extract k (k + 1)) (k + 1) with
    | none => rw [hj] at h; cases h
    | some i =>
      rw [hj] at h
      simp only at h
      have h1 := toF_ge hj
      rw [one_size hk] at h1
      split at h
      · cases h
        exact ⟨by rw [ByteArray.size_extract]; omega, by omega, by omega⟩
      · cases h
  · cases h
theorem blanks_H (T : TypeId) (s : ByteArray) (k j b : Nat) (rest : Array Value) (w : World) (v : Bool) (hs : s.size ≤ 1048576) (hk : k ≤ s.size) (hj : blanksE s k = j) (hv : decide (k < j) = v) (hR : Rd T w b s k rest) : Calls Tryz.prog 66 #[.pointer (some ⟨b, 0, none⟩)] w fun e w' => e = .returned (.bool v) ∧ Rd T w' b s j rest ∧ w.grownBy w' (some b) := by
  have := cur_blanks T s k b rest w hs hk hR
  rw [hj, hv] at this
  exact this
theorem quo_H {T : TypeId} {s : ByteArray} {k b : Nat} {rest : Array Value} {w0 w : World} {x : ByteArray} {j : Nat} (hq : quoE s k = some (x, j)) (hs : s.size ≤ 1048576) (hk : k ≤ s.size) (hT : frames.MaxAt w0) (hbel : Below w0.heap.size w0 w) (hge : w0.heap.size ≤ b) (hR : Rd T w b s k rest) : Calls Tryz.prog 91 #[.pointer (some ⟨b, 0, none⟩)] w fun e w' => e = .returned (.tuple #[.string x, .bool true]) ∧ Rd T w' b s j rest ∧ w.grownBy w' (some b) := by
  have := cur_quoted T s k b rest w0 w hs hk hT hbel hge hR
  rw [hq] at this
  exact Calls.mono this (fun e w' hh => ⟨hh.1.1, hh.1.2, hh.2⟩)
theorem quo_N {T : TypeId} {s : ByteArray} {k b : Nat} {rest : Array Value} {w0 w : World} (hq : quoE s k = none) (hs : s.size ≤ 1048576) (hk : k ≤ s.size) (hT : frames.MaxAt w0) (hbel : Below w0.heap.size w0 w) (hge : w0.heap.size ≤ b) (hR : Rd T w b s k rest) : Calls Tryz.prog 91 #[.pointer (some ⟨b, 0, none⟩)] w fun e w' => (∃ x, e = .returned (.tuple #[.string x, .bool false])) ∧ w.grownBy w' (some b) := by
  have := cur_quoted T s k b rest w0 w hs hk hT hbel hge hR
  rw [hq] at this
  exact Calls.mono this (fun e w' hh => by
    obtain ⟨⟨x, k', h1, h2⟩, hg⟩ := hh
    exact ⟨⟨x, h1⟩, hg⟩)
set_option maxRecDepth 100000 in
set_option maxHeartbeats 2000000 in
theorem val_no (s : ByteArray) (k b : Nat) (w0 : World) (ad : Option Addr) (L : List Pair) (c : Nat) (w : World) (hs : s.size ≤ 1048576) (hk : k ≤ s.size) (hv : ∀ i, i < L.length → (at0 L i).2.size ≤ 1048576) (hp : valP s k L = none) (hE : Env w0 w b ad L) (hR : Rm w b s k ad L.length c) : Calls Tryz.prog 81 #[.pointer (some ⟨b, 0, none⟩)] w fun e w' => e = .panicked [{ v := .iface 9 (.string ⟨#[105, 116, 32, 100, 111, 101, 115, 32, 110, 111, 116, 32, 103, 111, 32, 111, 110, 32, 115, 111]⟩), recovered := false }] ∧ w.grownBy w' (some b) := by
  have HE : Hid _ := hE
  cases hq : quoE s k with
  | none =>
    have H1 : Hid _ := quo_N hq hs hk hE.tab.max hE.bel hE.ge hR
    clear hq hp hE hR hv
    go_enter Tryz.func81, Tryz.ntmps81
    go_wp2_with fail
    refine Calls.mono H1.out ?_
    rintro e w1 ⟨⟨x, rfl⟩, hg⟩
    have HG1 : Hid _ := hg
    clear hg
    go_wp2_with (go_at_call 19; refine Calls.mono (must_no _ _) ?_; rintro e w_ ⟨rfl, hw_⟩; have hw3 := hw_.symm; clear hw_; subst hw3)
    exact ⟨rfl, rfl, HG1.out⟩
  | some y =>
    obtain ⟨x, j⟩ := y
    obtain ⟨hxz, hjs, hkj⟩ := quoE_le hq hs
    obtain ⟨z, ok, hz⟩ : ∃ z ok, refs.expandR (unbl.plain x) L = (z, ok) := ⟨_, _, rfl⟩
    cases ok
    · have H1 : Hid _ := quo_H hq hs hk hE.tab.max hE.bel hE.ge hR
      have H2 : Hid (∀ W, _) := fun W => unbl.impl_plain x W (by unfold maxLen; omega)
      have hpz : (unbl.plain x).size ≤ 1048576 := by rw [unbl.plain_size]; exact hxz
      have H3 : Hid (∀ W, Env w0 W b ad L → Rm W b s j ad L.length c → _) := fun W h1 h2 => exp_noI hpz hv hz h1 h2
      clear hq hp hE hR hz hv
      go_enter Tryz.func81, Tryz.ntmps81
      go_wp2_with fail
      refine Calls.mono H1.out ?_
      rintro e w1 ⟨rfl, hr, hg⟩
      have HR1 : Hid _ := hr
      have HG1 : Hid _ := hg
      clear hr hg
      go_wp2_with (first | (go_at_call 19; refine Calls.mono (must_yes _ _) ?_; rintro e w_ ⟨rfl, hw_⟩; have hw3 := hw_.symm; clear hw_; subst hw3) | fail)
      refine Calls.mono (H2.out _) ?_
      rintro e w2 ⟨rfl, hb⟩
      have HR2 : Hid _ := HR1.out.below hb
      have HG2 : Hid _ := gr_trans HG1.out (gr_below hb)
      clear hb
      go_wp2_with fail
      refine Calls.mono (H3.out _ (HE.out.step HG2.out) HR2.out) ?_
      rintro e w3 ⟨rfl, hg⟩
      have HG3 : Hid _ := gr_trans HG2.out hg
      clear hg
      go_wp2
      exact ⟨rfl, rfl, HG3.out⟩
    · rw [valP_some hq hz] at hp
      cases hp
set_option maxRecDepth 100000 in
set_option maxHeartbeats 2000000 in
theorem val_yes (s z : ByteArray) (k j b : Nat) (w0 : World) (ad : Option Addr) (L : List Pair) (c : Nat) (w : World) (hs : s.size ≤ 1048576) (hk : k ≤ s.size) (hv : ∀ i, i < L.length → (at0 L i).2.size ≤ 1048576) (hp : valP s k L = some (z, j)) (hE : Env w0 w b ad L) (hR : Rm w b s k ad L.length c) : Calls Tryz.prog 81 #[.pointer (some ⟨b, 0, none⟩)] w fun e w' => e = .returned (.string z) ∧ Rm w' b s j ad L.length c ∧ w.grownBy w' (some b) := by
  have HE : Hid _ := hE
  cases hq : quoE s k with
  | none => rw [valP_none hq] at hp; cases hp
  | some y =>
    obtain ⟨x, j'⟩ := y
    obtain ⟨hxz, hjs, hkj⟩ := quoE_le hq hs
    obtain ⟨z', ok, hz⟩ : ∃ z ok, refs.expandR (unbl.plain x) L = (z, ok) := ⟨_, _, rfl⟩
    cases ok
    · rw [valP_bad hq hz] at hp; cases hp
    · rw [valP_some hq hz] at hp
      simp only [Option.some.injEq, Prod.mk.injEq] at hp
      obtain ⟨rfl, rfl⟩ := hp
      have H1 : Hid _ := quo_H hq hs hk hE.tab.max hE.bel hE.ge hR
      have H2 : Hid (∀ W, _) := fun W => unbl.impl_plain x W (by unfold maxLen; omega)
      have hpz : (unbl.plain x).size ≤ 1048576 := by rw [unbl.plain_size]; exact hxz
      have H3 : Hid (∀ W, Env w0 W b ad L → Rm W b s j' ad L.length c → _) := fun W h1 h2 => exp_yesI hpz hv hz h1 h2
      clear hq hE hR hz hv
      go_enter Tryz.func81, Tryz.ntmps81
      go_wp2_with fail
      refine Calls.mono H1.out ?_
      rintro e w1 ⟨rfl, hr, hg⟩
      have HR1 : Hid _ := hr
      have HG1 : Hid _ := hg
      clear hr hg
      go_wp2_with (first | (go_at_call 19; refine Calls.mono (must_yes _ _) ?_; rintro e w_ ⟨rfl, hw_⟩; have hw3 := hw_.symm; clear hw_; subst hw3) | fail)
      refine Calls.mono (H2.out _) ?_
      rintro e w2 ⟨rfl, hb⟩
      have HR2 : Hid _ := HR1.out.below hb
      have HG2 : Hid _ := gr_trans HG1.out (gr_below hb)
      clear hb
      go_wp2_with fail
      refine Calls.mono (H3.out _ (HE.out.step HG2.out) HR2.out) ?_
      rintro e w3 ⟨rfl, hr, hg⟩
      have HR3 : Hid _ := hr
      have HG3 : Hid _ := gr_trans HG2.out hg
      clear hr hg
      go_wp2
      go_ret
      exact ⟨rfl, HR3.out, HG3.out⟩
theorem rd_set2 {T : TypeId} {w : World} {b g i k : Nat} {u : Value} {s : ByteArray} {rest : Array Value} (h : Rd T w b s k rest) (hne : g ≠ b) : Rd T (w.setCell ⟨g, i, none⟩ u) b s k rest := ⟨(Below.heap_setCell w ⟨g, i, none⟩ u b (Ne.symm hne)).trans h.blk⟩
theorem gr_five {w W : World} {b g : Nat} {u0 u1 u2 u3 u4 : Value} (h : w.grownBy W (some b)) (hg : w.heap.size ≤ g) : w.grownBy (((((W.setCell ⟨g, 0, none⟩ u0).setCell ⟨g, 1, none⟩ u1).setCell ⟨g, 2, none⟩ u2).setCell ⟨g, 3, none⟩ u3).setCell ⟨g, 4, none⟩ u4) (some b) := gr_set2 (gr_set2 (gr_set2 (gr_set2 (gr_set2 h hg) hg) hg) hg) hg
theorem rd_five {T : TypeId} {W : World} {b g k : Nat} {u0 u1 u2 u3 u4 : Value} {s : ByteArray} {rest : Array Value} (h : Rd T W b s k rest) (hne : g ≠ b) : Rd T (((((W.setCell ⟨g, 0, none⟩ u0).setCell ⟨g, 1, none⟩ u1).setCell ⟨g, 2, none⟩ u2).setCell ⟨g, 3, none⟩ u3).setCell ⟨g, 4, none⟩ u4) b s k rest := rd_set2 (rd_set2 (rd_set2 (rd_set2 (rd_set2 h hne) hne) hne) hne) hne
/-- A mark whose text may stand. -/
def chk (r : Option (MarkV × Nat)) : Option (MarkV × Nat) := match r with | none => none | some (m, j) => if refs.textB m.text = true then some (m, j) else none
theorem markT_chk (s : ByteArray) (a : Nat) (L : List Pair) : markT s a L = chk (markE s a L) := by
  unfold markT chk
  cases markE s a L with
  | none => rfl
  | some y => obtain ⟨m, j⟩ := y; rfl
theorem chk_yes {r : Option (MarkV × Nat)} {m : MarkV} {j : Nat} (h : r = some (m, j)) (ht : refs.textB m.text = true) : chk r = some (m, j) := by subst h; exact if_pos ht
theorem chk_no {r : Option (MarkV × Nat)} {m : MarkV} {j : Nat} (h : r = some (m, j)) (ht : refs.textB m.text = false) : chk r = none := by subst h; exact if_neg (by rw [ht]; decide)
theorem chk_none {r : Option (MarkV × Nat)} (h : r = none) : chk r = none := by subst h; rfl
theorem text_nil : refs.textB ⟨#[]⟩ = true := by decide +kernel
/-- What mark and its parts end with. -/
def mOk (r : Option (MarkV × Nat)) (s : ByteArray) (b : Nat) (ad : Option Addr) (n c : Nat) (w w' : World) (e : Ending) : Prop :=
  match r with
  | none => gaveUp e
  | some (m, j) => (∃ a' c', e = .returned (mkV m a' c') ∧ trees.OwnP w' a' m.raws (Rng w w')) ∧ Rm w' b s j ad n c
theorem m_none {r : Option (MarkV × Nat)} {s : ByteArray} {b : Nat} {ad : Option Addr} {n c : Nat} {w w' : World} {e : Ending} (h : r = none) (he : gaveUp e) : mOk r s b ad n c w w' e := by subst h; exact he
theorem m_plain {r : Option (MarkV × Nat)} {s : ByteArray} {b : Nat} {ad : Option Addr} {n c : Nat} {w w' : World} {e : Ending} {k : Int} {x y : ByteArray} {bb : Bool} {j : Nat} (h : r = some (⟨k, x, [], bb, y⟩, j)) (he : e = .returned (.agg #[.int .i64 k, .string x, .slice none 0 0, .bool bb, .string y])) (hR : Rm w' b s j ad n c) : mOk r s b ad n c w w' e := by
  subst h
  exact ⟨⟨none, 0, he, fun h0 => absurd h0 (Nat.lt_irrefl _)⟩, hR⟩
set_option maxRecDepth 100000 in
set_option maxHeartbeats 4000000 in
theorem raw_no (s : ByteArray) (k b : Nat) (w0 : World) (ad : Option Addr) (L : List Pair) (c : Nat) (w : World) (hs : s.size ≤ 1048576) (hv : ∀ i, i < L.length → (at0 L i).2.size ≤ 1048576) (hk : k ≤ s.size) (hp : rawE s k L = none) (hE : Env w0 w b ad L) (hR : Rm w b s k ad L.length c) : Calls Tryz.prog 67 #[.pointer (some ⟨b, 0, none⟩)] w fun e w' => e = .panicked [{ v := .iface 9 (.string ⟨#[105, 116, 32, 100, 111, 101, 115, 32, 110, 111, 116, 32, 103, 111, 32, 111, 110, 32, 115, 111]⟩), recovered := false }] ∧ w.grownBy w' (some b) := by
  have HE0 : Hid (Env w0 w b ad L) := hE
  have HR0 : Hid (Rm w b s k ad L.length c) := hR
  have hbl := hR.lt
  have hne : w.heap.size ≠ b := by omega
  have hkl := nameE_le s k hk
  obtain ⟨k1, hk1⟩ : ∃ k1, nameE s k = k1 := ⟨_, rfl⟩
  rw [hk1] at hkl
  obtain ⟨n, hn⟩ : ∃ n, s.extract k k1 = n := ⟨_, rfl⟩
  by_cases hok : (splitT n).2.2 = true
  · have H1 : Hid (∀ W, Env w0 W b ad L → Rm W b s k ad L.length c → _) := fun W h1 h2 => name_yes s n k k1 b ad L.length c W hs hk hk1 hn hok h1.xt.tab.name h2
    obtain ⟨f, hf⟩ : ∃ f, blanksE s k1 = f := ⟨_, rfl⟩
    have hfl := blanksE_le s k1 hkl
    rw [hf] at hfl
    have H2 : Hid (∀ W, Env w0 W b ad L → Rm W b s k1 ad L.length c → _) := fun W h1 h2 => blanks_H _ s k1 f b _ W _ hs hkl hf rfl h2
    cases h61 : isAt s ⟨#[61]⟩ f
    · have H3 : Hid (∀ W, Env w0 W b ad L → Rm W b s f ad L.length c → _) := fun W h1 h2 => take_H _ s ⟨#[61]⟩ f b _ W hs hfl (by decide) false f h61 rfl h2
      clear hE hR hp hk1 hn hok hf h61
      go_enter Tryz.func67, Tryz.ntmps67
      go_wp2_with fail
      refine Calls.mono (H1.out _ (HE0.out.below ((Below.refl _ _).alloc (Nat.le_refl _) _)) (HR0.out.below ((Below.refl _ _).alloc (Nat.le_refl _) _))) ?_
      rintro e w1 ⟨rfl, hr, hg⟩
      have HR1 : Hid _ := hr
      have HG1 : Hid (w.grownBy w1 (some b)) := gr_from hg
      have HX1 : Hid _ := gr_obj hg (heap_alloc_new w _) hne
      clear hg hr
      go_wp2_with fail
      refine Calls.mono (H2.out _ (HE0.out.step HG1.out) HR1.out) ?_
      rintro e w2 ⟨rfl, hr, hg⟩
      have HR2 : Hid _ := hr
      have HG2 : Hid (w.grownBy w2 (some b)) := gr_trans HG1.out hg
      have HX2 : Hid _ := gr_obj hg HX1.out hne
      clear hg hr
      go_wp2_with fail
      refine Calls.mono (H3.out _ (HE0.out.step HG2.out) HR2.out) ?_
      rintro e w3 ⟨rfl, hr, hg⟩
      have HR3 : Hid _ := hr
      have HG3 : Hid (w.grownBy w3 (some b)) := gr_trans HG2.out hg
      have HX3 : Hid _ := gr_obj hg HX2.out hne
      clear hg hr
      go_wp2_with (go_at_call 19; refine Calls.mono (must_no _ _) ?_; rintro e w_ ⟨rfl, hw_⟩; have hw3 := hw_.symm; clear hw_; subst hw3)
      exact ⟨rfl, rfl, HG3.out⟩
    · have hfl1 : f + 1 ≤ s.size := isAt_le h61
      have H3 : Hid (∀ W, Env w0 W b ad L → Rm W b s f ad L.length c → _) := fun W h1 h2 => take_H _ s ⟨#[61]⟩ f b _ W hs hfl (by decide) true (f + 1) h61 rfl h2
      obtain ⟨g, hg0⟩ : ∃ g, blanksE s (f + 1) = g := ⟨_, rfl⟩
      have hgl := blanksE_le s (f + 1) hfl1
      rw [hg0] at hgl
      have H4 : Hid (∀ W, Env w0 W b ad L → Rm W b s (f + 1) ad L.length c → _) := fun W h1 h2 => blanks_H _ s (f + 1) g b _ W _ hs hfl1 hg0 rfl h2
      rw [rawE_val hok (by rw [hk1]; exact hn) (by rw [hk1]; exact hf) h61 hg0] at hp
      cases hvp : valP s g L with
      | some y => obtain ⟨x, j⟩ := y; rw [hvp] at hp; cases hp
      | none =>
        have H5 : Hid (∀ W, Env w0 W b ad L → Rm W b s g ad L.length c → _) := fun W h1 h2 => val_no s g b w0 ad L c W hs hgl hv hvp h1 h2
        clear hE hR hp hk1 hn hok hf h61 hg0 hvp hv
        go_enter Tryz.func67, Tryz.ntmps67
        go_wp2_with fail
        refine Calls.mono (H1.out _ (HE0.out.below ((Below.refl _ _).alloc (Nat.le_refl _) _)) (HR0.out.below ((Below.refl _ _).alloc (Nat.le_refl _) _))) ?_
        rintro e w1 ⟨rfl, hr, hg⟩
        have HR1 : Hid _ := hr
        have HG1 : Hid (w.grownBy w1 (some b)) := gr_from hg
        have HX1 : Hid _ := gr_obj hg (heap_alloc_new w _) hne
        clear hg hr
        go_wp2_with fail
        refine Calls.mono (H2.out _ (HE0.out.step HG1.out) HR1.out) ?_
        rintro e w2 ⟨rfl, hr, hg⟩
        have HR2 : Hid _ := hr
        have HG2 : Hid (w.grownBy w2 (some b)) := gr_trans HG1.out hg
        have HX2 : Hid _ := gr_obj hg HX1.out hne
        clear hg hr
        go_wp2_with fail
        refine Calls.mono (H3.out _ (HE0.out.step HG2.out) HR2.out) ?_
        rintro e w3 ⟨rfl, hr, hg⟩
        have HR3 : Hid _ := hr
        have HG3 : Hid (w.grownBy w3 (some b)) := gr_trans HG2.out hg
        have HX3 : Hid _ := gr_obj hg HX2.out hne
        clear hg hr
        go_wp2_with (first | (go_at_call 19; refine Calls.mono (must_yes _ _) ?_; rintro e w_ ⟨rfl, hw_⟩; have hw3 := hw_.symm; clear hw_; subst hw3) | fail)
        refine Calls.mono (H4.out _ (HE0.out.step HG3.out) HR3.out) ?_
        rintro e w4 ⟨rfl, hr, hg⟩
        have HR4 : Hid _ := hr
        have HG4 : Hid (w.grownBy w4 (some b)) := gr_trans HG3.out hg
        have HX4 : Hid _ := gr_obj hg HX3.out hne
        clear hg hr
        go_wp2_with fail
        refine Calls.mono (H5.out _ (HE0.out.step HG4.out) HR4.out) ?_
        rintro e w5 ⟨rfl, hg⟩
        have HG5 : Hid (w.grownBy w5 (some b)) := gr_trans HG4.out hg
        clear hg
        go_wp2
        exact ⟨rfl, rfl, HG5.out⟩
  · have H1 : Hid (∀ W, Env w0 W b ad L → Rm W b s k ad L.length c → _) := fun W h1 h2 => name_no s n k k1 b ad L.length c W hs hk hk1 hn hok h1.xt.tab.name h2
    clear hE hR hp hk1 hn hok hv
    go_enter Tryz.func67, Tryz.ntmps67
    go_wp2_with fail
    refine Calls.mono (H1.out _ (HE0.out.below ((Below.refl _ _).alloc (Nat.le_refl _) _)) (HR0.out.below ((Below.refl _ _).alloc (Nat.le_refl _) _))) ?_
    rintro e w1 ⟨rfl, hg⟩
    have HG1 : Hid (w.grownBy w1 (some b)) := gr_from hg
    clear hg
    go_wp2
    exact ⟨rfl, rfl, HG1.out⟩
set_option maxRecDepth 100000 in
set_option maxHeartbeats 4000000 in
theorem raw_yes (s : ByteArray) (k b : Nat) (w0 : World) (ad : Option Addr) (L : List Pair) (c : Nat) (w : World) (hs : s.size ≤ 1048576) (hv : ∀ i, i < L.length → (at0 L i).2.size ≤ 1048576) (n x : ByteArray) (j : Nat) (hk : k ≤ s.size) (hp : rawE s k L = some (n, x, j)) (hE : Env w0 w b ad L) (hR : Rm w b s k ad L.length c) : Calls Tryz.prog 67 #[.pointer (some ⟨b, 0, none⟩)] w fun e w' => e = .returned (.agg #[.string n, .string x]) ∧ Rm w' b s j ad L.length c ∧ w.grownBy w' (some b) := by
  have HE0 : Hid (Env w0 w b ad L) := hE
  have HR0 : Hid (Rm w b s k ad L.length c) := hR
  have hbl := hR.lt
  have hne : w.heap.size ≠ b := by omega
  have hkl := nameE_le s k hk
  obtain ⟨k1, hk1⟩ : ∃ k1, nameE s k = k1 := ⟨_, rfl⟩
  rw [hk1] at hkl
  obtain ⟨n', hn⟩ : ∃ n, s.extract k k1 = n := ⟨_, rfl⟩
  by_cases hok : (splitT n').2.2 = true
  · obtain ⟨f, hf⟩ : ∃ f, blanksE s k1 = f := ⟨_, rfl⟩
    have hfl := blanksE_le s k1 hkl
    rw [hf] at hfl
    cases h61 : isAt s ⟨#[61]⟩ f
    · rw [rawE_eq (by rw [hk1]; exact hf) h61] at hp; cases hp
    · have hfl1 : f + 1 ≤ s.size := isAt_le h61
      obtain ⟨g, hg0⟩ : ∃ g, blanksE s (f + 1) = g := ⟨_, rfl⟩
      have hgl := blanksE_le s (f + 1) hfl1
      rw [hg0] at hgl
      rw [rawE_val hok (by rw [hk1]; exact hn) (by rw [hk1]; exact hf) h61 hg0] at hp
      cases hvp : valP s g L with
      | none => rw [hvp] at hp; cases hp
      | some y =>
        obtain ⟨x', j'⟩ := y
        rw [hvp] at hp
        simp only [Option.some.injEq, Prod.mk.injEq] at hp
        obtain ⟨rfl, rfl, rfl⟩ := hp
        have H1 : Hid (∀ W, Env w0 W b ad L → Rm W b s k ad L.length c → _) := fun W h1 h2 => name_yes s n' k k1 b ad L.length c W hs hk hk1 hn hok h1.xt.tab.name h2
        have H2 : Hid (∀ W, Env w0 W b ad L → Rm W b s k1 ad L.length c → _) := fun W h1 h2 => blanks_H _ s k1 f b _ W _ hs hkl hf rfl h2
        have H3 : Hid (∀ W, Env w0 W b ad L → Rm W b s f ad L.length c → _) := fun W h1 h2 => take_H _ s ⟨#[61]⟩ f b _ W hs hfl (by decide) true (f + 1) h61 rfl h2
        have H4 : Hid (∀ W, Env w0 W b ad L → Rm W b s (f + 1) ad L.length c → _) := fun W h1 h2 => blanks_H _ s (f + 1) g b _ W _ hs hfl1 hg0 rfl h2
        have H5 : Hid (∀ W, Env w0 W b ad L → Rm W b s g ad L.length c → _) := fun W h1 h2 => val_yes s x' g j' b w0 ad L c W hs hgl hv hvp h1 h2
        clear hE hR hk1 hn hok hf h61 hg0 hvp hv
        go_enter Tryz.func67, Tryz.ntmps67
        go_wp2_with fail
        refine Calls.mono (H1.out _ (HE0.out.below ((Below.refl _ _).alloc (Nat.le_refl _) _)) (HR0.out.below ((Below.refl _ _).alloc (Nat.le_refl _) _))) ?_
        rintro e w1 ⟨rfl, hr, hg⟩
        have HR1 : Hid _ := hr
        have HG1 : Hid (w.grownBy w1 (some b)) := gr_from hg
        have HX1 : Hid _ := gr_obj hg (heap_alloc_new w _) hne
        clear hg hr
        go_wp2_with fail
        refine Calls.mono (H2.out _ (HE0.out.step HG1.out) HR1.out) ?_
        rintro e w2 ⟨rfl, hr, hg⟩
        have HR2 : Hid _ := hr
        have HG2 : Hid (w.grownBy w2 (some b)) := gr_trans HG1.out hg
        have HX2 : Hid _ := gr_obj hg HX1.out hne
        clear hg hr
        go_wp2_with fail
        refine Calls.mono (H3.out _ (HE0.out.step HG2.out) HR2.out) ?_
        rintro e w3 ⟨rfl, hr, hg⟩
        have HR3 : Hid _ := hr
        have HG3 : Hid (w.grownBy w3 (some b)) := gr_trans HG2.out hg
        have HX3 : Hid _ := gr_obj hg HX2.out hne
        clear hg hr
        go_wp2_with (first | (go_at_call 19; refine Calls.mono (must_yes _ _) ?_; rintro e w_ ⟨rfl, hw_⟩; have hw3 := hw_.symm; clear hw_; subst hw3) | fail)
        refine Calls.mono (H4.out _ (HE0.out.step HG3.out) HR3.out) ?_
        rintro e w4 ⟨rfl, hr, hg⟩
        have HR4 : Hid _ := hr
        have HG4 : Hid (w.grownBy w4 (some b)) := gr_trans HG3.out hg
        have HX4 : Hid _ := gr_obj hg HX3.out hne
        clear hg hr
        go_wp2_with fail
        refine Calls.mono (H5.out _ (HE0.out.step HG4.out) HR4.out) ?_
        rintro e w5 ⟨rfl, hr, hg⟩
        have HR5 : Hid _ := hr
        have HG5 : Hid (w.grownBy w5 (some b)) := gr_trans HG4.out hg
        have HX5 : Hid _ := gr_obj hg HX4.out hne
        clear hg hr
        obtain ⟨⟨o0, o1⟩, q0, q1⟩ := boxR HX5.out
        go_wp2
        refine bodyPost_ret (by simp [results, Tryz.results67, go_sem, o0, o1]; try rfl) rfl ?_
        exact ⟨rfl, rd_set2 (rd_set2 HR5.out hne) hne, gr_set2 (gr_set2 HG5.out (Nat.le_refl _)) (Nat.le_refl _)⟩
  · rw [rawE_no (by rw [hk1, hn]; exact hok)] at hp; cases hp
theorem closeE_no {s : ByteArray} {a : Nat} (h : ¬ (splitT (s.extract (a + 2) (nameE s (a + 2)))).2.2 = true) : closeE s a = none := if_neg h
theorem closeE_bad {s : ByteArray} {a k f : Nat} (hk : nameE s (a + 2) = k) (hf : blanksE s k = f) (h : isAt s ⟨#[62]⟩ f = false) : closeE s a = none := by
  unfold closeE
  rw [hk, hf, h]
  split <;> rfl
theorem closeE_yes {s n : ByteArray} {a k f : Nat} (hk : nameE s (a + 2) = k) (hn : s.extract (a + 2) k = n) (hok : (splitT n).2.2 = true) (hf : blanksE s k = f) (h : isAt s ⟨#[62]⟩ f = true) : closeE s a = some (⟨2, n, [], false, ⟨#[]⟩⟩, f + 1) := by
  unfold closeE
  rw [hk, hn, if_pos hok, hf, if_pos h]
set_option maxRecDepth 100000 in
set_option maxHeartbeats 4000000 in
theorem rd_closing (s : ByteArray) (a b : Nat) (w0 : World) (ad : Option Addr) (L : List Pair) (c : Nat) (w : World) (hs : s.size ≤ 1048576) (hv : ∀ i, i < L.length → (at0 L i).2.size ≤ 1048576) (ha : a + 2 ≤ s.size) (hE : Env w0 w b ad L) (hR : Rm w b s (a + 2) ad L.length c) : Calls Tryz.prog 44 #[.pointer (some ⟨b, 0, none⟩)] w fun e w' => mOk (chk (closeE s a)) s b ad L.length c w w' e ∧ w.grownBy w' (some b) := by
  have HE0 : Hid (Env w0 w b ad L) := hE
  have HR0 : Hid (Rm w b s (a + 2) ad L.length c) := hR
  have hbl := hR.lt
  have hne : w.heap.size ≠ b := by omega
  obtain ⟨M, hM⟩ : ∃ M, chk (closeE s a) = M := ⟨_, rfl⟩
  rw [hM]
  have hkl := nameE_le s (a + 2) ha
  obtain ⟨k1, hk1⟩ : ∃ k1, nameE s (a + 2) = k1 := ⟨_, rfl⟩
  rw [hk1] at hkl
  obtain ⟨n, hn⟩ : ∃ n, s.extract (a + 2) k1 = n := ⟨_, rfl⟩
  by_cases hok : (splitT n).2.2 = true
  · have H1 : Hid (∀ W, Env w0 W b ad L → Rm W b s (a + 2) ad L.length c → _) := fun W h1 h2 => name_yes s n (a + 2) k1 b ad L.length c W hs ha hk1 hn hok h1.xt.tab.name h2
    obtain ⟨f, hf⟩ : ∃ f, blanksE s k1 = f := ⟨_, rfl⟩
    have hfl := blanksE_le s k1 hkl
    rw [hf] at hfl
    have H2 : Hid (∀ W, Env w0 W b ad L → Rm W b s k1 ad L.length c → _) := fun W h1 h2 => blanks_H _ s k1 f b _ W _ hs hkl hf rfl h2
    cases h62 : isAt s ⟨#[62]⟩ f
    · have H3 : Hid (∀ W, Env w0 W b ad L → Rm W b s f ad L.length c → _) := fun W h1 h2 => take_H _ s ⟨#[62]⟩ f b _ W hs hfl (by decide) false f h62 rfl h2
      have HN : Hid (M = none) := hM.symm.trans (chk_none (closeE_bad hk1 hf h62))
      clear hE hR hk1 hn hok hf h62 hM
      go_enter Tryz.func44, Tryz.ntmps44
      go_wp2_with fail
      refine Calls.mono (H1.out _ (HE0.out.below ((Below.refl _ _).alloc (Nat.le_refl _) _)) (HR0.out.below ((Below.refl _ _).alloc (Nat.le_refl _) _))) ?_
      rintro e w1 ⟨rfl, hr, hg⟩
      have HR1 : Hid _ := hr
      have HG1 : Hid (w.grownBy w1 (some b)) := gr_from hg
      have HX1 : Hid _ := gr_obj hg (heap_alloc_new w _) hne
      clear hg hr
      go_wp2_with fail
      refine Calls.mono (H2.out _ ((HE0.out.step HG1.out).below ((Below.refl _ _).alloc (Nat.le_refl _) _)) (HR1.out.below ((Below.refl _ _).alloc (Nat.le_refl _) _))) ?_
      rintro e w2 ⟨rfl, hr, hg⟩
      have HR2 : Hid _ := hr
      have HG2 : Hid (w.grownBy w2 (some b)) := gr_trans (gr_alloc HG1.out) hg
      have HX2 : Hid _ := gr_obj hg ((Below.heap_alloc w1 _ _ (lt_heap HX1.out)).trans HX1.out) hne
      have HM2 : Hid _ := gr_obj hg (heap_alloc_new w1 _) (by have := HG1.out.size; omega)
      clear hg hr
      go_wp2_with fail
      refine Calls.mono (H3.out _ (HE0.out.step HG2.out) HR2.out) ?_
      rintro e w3 ⟨rfl, hr, hg⟩
      have HR3 : Hid _ := hr
      have HG3 : Hid (w.grownBy w3 (some b)) := gr_trans HG2.out hg
      have HX3 : Hid _ := gr_obj hg HX2.out hne
      have HM3 : Hid _ := gr_obj hg HM2.out (by have := HG1.out.size; omega)
      clear hg hr
      go_wp2_with (go_at_call 19; refine Calls.mono (must_no _ _) ?_; rintro e w_ ⟨rfl, hw_⟩; have hw3 := hw_.symm; clear hw_; subst hw3)
      exact ⟨rfl, m_none HN.out rfl, HG3.out⟩
    · have H3 : Hid (∀ W, Env w0 W b ad L → Rm W b s f ad L.length c → _) := fun W h1 h2 => take_H _ s ⟨#[62]⟩ f b _ W hs hfl (by decide) true (f + 1) h62 rfl h2
      have HN : Hid (M = some (⟨2, n, [], false, ⟨#[]⟩⟩, f + 1)) := hM.symm.trans (chk_yes (closeE_yes hk1 hn hok hf h62) text_nil)
      clear hE hR hk1 hn hok hf h62 hM
      go_enter Tryz.func44, Tryz.ntmps44
      go_wp2_with fail
      refine Calls.mono (H1.out _ (HE0.out.below ((Below.refl _ _).alloc (Nat.le_refl _) _)) (HR0.out.below ((Below.refl _ _).alloc (Nat.le_refl _) _))) ?_
      rintro e w1 ⟨rfl, hr, hg⟩
      have HR1 : Hid _ := hr
      have HG1 : Hid (w.grownBy w1 (some b)) := gr_from hg
      have HX1 : Hid _ := gr_obj hg (heap_alloc_new w _) hne
      clear hg hr
      go_wp2_with fail
      refine Calls.mono (H2.out _ ((HE0.out.step HG1.out).below ((Below.refl _ _).alloc (Nat.le_refl _) _)) (HR1.out.below ((Below.refl _ _).alloc (Nat.le_refl _) _))) ?_
      rintro e w2 ⟨rfl, hr, hg⟩
      have HR2 : Hid _ := hr
      have HG2 : Hid (w.grownBy w2 (some b)) := gr_trans (gr_alloc HG1.out) hg
      have HX2 : Hid _ := gr_obj hg ((Below.heap_alloc w1 _ _ (lt_heap HX1.out)).trans HX1.out) hne
      have HM2 : Hid _ := gr_obj hg (heap_alloc_new w1 _) (by have := HG1.out.size; omega)
      clear hg hr
      go_wp2_with fail
      refine Calls.mono (H3.out _ (HE0.out.step HG2.out) HR2.out) ?_
      rintro e w3 ⟨rfl, hr, hg⟩
      have HR3 : Hid _ := hr
      have HG3 : Hid (w.grownBy w3 (some b)) := gr_trans HG2.out hg
      have HX3 : Hid _ := gr_obj hg HX2.out hne
      have HM3 : Hid _ := gr_obj hg HM2.out (by have := HG1.out.size; omega)
      clear hg hr
      obtain ⟨⟨o0, o1, o2, o3, o4⟩, q0, q1, q2, q3, q4⟩ := box5 HX3.out
      obtain ⟨⟨m0, m1, m2, m3, m4⟩, p0, p1, p2, p3, p4⟩ := box5 HM3.out
      go_wp2_with (go_at_call 19; refine Calls.mono (must_yes _ _) ?_; rintro e w_ ⟨rfl, hw_⟩; have hw3 := hw_.symm; clear hw_; subst hw3)
      refine bodyPost_ret (by simp [results, Tryz.results44, go_sem, o0, o1, o2, o3, o4]; try rfl) rfl ?_
      exact ⟨m_plain HN.out rfl (rd_five HR3.out hne), gr_five HG3.out (Nat.le_refl _)⟩
  · have H1 : Hid (∀ W, Env w0 W b ad L → Rm W b s (a + 2) ad L.length c → _) := fun W h1 h2 => name_no s n (a + 2) k1 b ad L.length c W hs ha hk1 hn hok h1.xt.tab.name h2
    have HN : Hid (M = none) := hM.symm.trans (chk_none (closeE_no (by rw [hk1, hn]; exact hok)))
    clear hE hR hk1 hn hok hM
    go_enter Tryz.func44, Tryz.ntmps44
    go_wp2_with fail
    refine Calls.mono (H1.out _ (HE0.out.below ((Below.refl _ _).alloc (Nat.le_refl _) _)) (HR0.out.below ((Below.refl _ _).alloc (Nat.le_refl _) _))) ?_
    rintro e w1 ⟨rfl, hg⟩
    have HG1 : Hid (w.grownBy w1 (some b)) := gr_from hg
    clear hg
    go_wp2
    exact ⟨rfl, m_none HN.out rfl, HG1.out⟩
theorem toldE_no {s : ByteArray} {a : Nat} (h : ¬ (splitT (s.extract (a + 2) (nameE s (a + 2)))).2.2 = true) : toldE s a = none := if_neg h
theorem toldE_end {s n : ByteArray} {a k : Nat} (hk : nameE s (a + 2) = k) (hn : s.extract (a + 2) k = n) (hok : (splitT n).2.2 = true) (h : isAt s ⟨#[63, 62]⟩ k = true) : toldE s a = some (n, ⟨#[]⟩, k + 2) := by
  unfold toldE
  rw [hk, hn, if_pos hok, if_pos h]
theorem toldE_stuck {s n : ByteArray} {a k : Nat} (hk : nameE s (a + 2) = k) (hn : s.extract (a + 2) k = n) (hok : (splitT n).2.2 = true) (h : isAt s ⟨#[63, 62]⟩ k = false) (hf : blanksE s k = k) : toldE s a = none := by
  unfold toldE
  rw [hk, hn, if_pos hok, if_neg (by rw [h]; decide), if_pos hf]
theorem toldE_go {s n : ByteArray} {a k f : Nat} (hk : nameE s (a + 2) = k) (hn : s.extract (a + 2) k = n) (hok : (splitT n).2.2 = true) (h : isAt s ⟨#[63, 62]⟩ k = false) (hf : blanksE s k = f) (hne : ¬ f = k) : toldE s a = match toI s ⟨#[63, 62]⟩ f with | none => none | some j => some (n, s.extract f j, j + 2) := by
  unfold toldE
  rw [hk, hn, if_pos hok, if_neg (by rw [h]; decide), hf, if_neg hne]
  cases toI s ⟨#[63, 62]⟩ f <;> rfl
set_option maxRecDepth 100000 in
set_option maxHeartbeats 4000000 in
theorem rd_told (s : ByteArray) (a b : Nat) (w0 : World) (ad : Option Addr) (L : List Pair) (c : Nat) (w : World) (hs : s.size ≤ 1048576) (hv : ∀ i, i < L.length → (at0 L i).2.size ≤ 1048576) (ha : a + 2 ≤ s.size) (hE : Env w0 w b ad L) (hR : Rm w b s (a + 2) ad L.length c) : Calls Tryz.prog 43 #[.pointer (some ⟨b, 0, none⟩)] w fun e w' => mOk (chk (tldE s a)) s b ad L.length c w w' e ∧ w.grownBy w' (some b) := by
  have HE0 : Hid (Env w0 w b ad L) := hE
  have HR0 : Hid (Rm w b s (a + 2) ad L.length c) := hR
  have hbl := hR.lt
  have hne : w.heap.size ≠ b := by omega
  obtain ⟨M, hM⟩ : ∃ M, chk (tldE s a) = M := ⟨_, rfl⟩
  rw [hM]
  have hkl := nameE_le s (a + 2) ha
  obtain ⟨k1, hk1⟩ : ∃ k1, nameE s (a + 2) = k1 := ⟨_, rfl⟩
  rw [hk1] at hkl
  obtain ⟨n, hn⟩ : ∃ n, s.extract (a + 2) k1 = n := ⟨_, rfl⟩
  by_cases hok : (splitT n).2.2 = true
  · have H1 : Hid (∀ W, Env w0 W b ad L → Rm W b s (a + 2) ad L.length c → _) := fun W h1 h2 => name_yes s n (a + 2) k1 b ad L.length c W hs ha hk1 hn hok h1.xt.tab.name h2
    cases hq : isAt s ⟨#[63, 62]⟩ k1
    · have H2 : Hid (∀ W, Env w0 W b ad L → Rm W b s k1 ad L.length c → _) := fun W h1 h2 => take_H _ s ⟨#[63, 62]⟩ k1 b _ W hs hkl (by decide) false k1 hq rfl h2
      obtain ⟨f, hf⟩ : ∃ f, blanksE s k1 = f := ⟨_, rfl⟩
      have hfl := blanksE_le s k1 hkl
      have hfg := blanksE_ge s k1
      rw [hf] at hfl hfg
      by_cases hfk : f = k1
      · have H3 : Hid (∀ W, Env w0 W b ad L → Rm W b s k1 ad L.length c → _) := fun W h1 h2 => blanks_H _ s k1 f b _ W false hs hkl hf (decide_eq_false (by omega)) h2
        have HN : Hid (M = none) := hM.symm.trans (chk_none (tld_none (toldE_stuck hk1 hn hok hq (by rw [hf]; exact hfk))))
        clear hE hR hk1 hn hok hf hq hM hfk hfg
        go_enter Tryz.func43, Tryz.ntmps43
        go_wp2_with fail
        refine Calls.mono (H1.out _ (HE0.out.below ((Below.refl _ _).alloc (Nat.le_refl _) _)) (HR0.out.below ((Below.refl _ _).alloc (Nat.le_refl _) _))) ?_
        rintro e w1 ⟨rfl, hr, hg⟩
        have HR1 : Hid _ := hr
        have HG1 : Hid (w.grownBy w1 (some b)) := gr_from hg
        have HX1 : Hid _ := gr_obj hg (heap_alloc_new w _) hne
        clear hg hr
        go_wp2_with fail
        refine Calls.mono (H2.out _ ((HE0.out.step HG1.out).below ((Below.refl _ _).alloc (Nat.le_refl _) _)) (HR1.out.below ((Below.refl _ _).alloc (Nat.le_refl _) _))) ?_
        rintro e w2 ⟨rfl, hr, hg⟩
        have HR2 : Hid _ := hr
        have HG2 : Hid (w.grownBy w2 (some b)) := gr_trans (gr_alloc HG1.out) hg
        have HX2 : Hid _ := gr_obj hg ((Below.heap_alloc w1 _ _ (lt_heap HX1.out)).trans HX1.out) hne
        have HM2 : Hid _ := gr_obj hg (heap_alloc_new w1 _) (by have := HG1.out.size; omega)
        clear hg hr
        go_wp2_with fail
        refine Calls.mono (H3.out _ (HE0.out.step HG2.out) HR2.out) ?_
        rintro e w3 ⟨rfl, hr, hg⟩
        have HR3 : Hid _ := hr
        have HG3 : Hid (w.grownBy w3 (some b)) := gr_trans HG2.out hg
        have HX3 : Hid _ := gr_obj hg HX2.out hne
        have HM3 : Hid _ := gr_obj hg HM2.out (by have := HG1.out.size; omega)
        clear hg hr
        go_wp2_with (go_at_call 19; refine Calls.mono (must_no _ _) ?_; rintro e w_ ⟨rfl, hw_⟩; have hw3 := hw_.symm; clear hw_; subst hw3)
        exact ⟨rfl, m_none HN.out rfl, HG3.out⟩
      · have H3 : Hid (∀ W, Env w0 W b ad L → Rm W b s k1 ad L.length c → _) := fun W h1 h2 => blanks_H _ s k1 f b _ W true hs hkl hf (decide_eq_true (by omega)) h2
        have hgo := toldE_go hk1 hn hok hq hf hfk
        cases hj : toI s ⟨#[63, 62]⟩ f with
        | none =>
          rw [hj] at hgo
          have H4 : Hid (∀ W, Env w0 W b ad L → Rm W b s f ad L.length c → _) := fun W h1 h2 => txt_miss hs hfl (by decide) hj h1 h2
          have HN : Hid (M = none) := hM.symm.trans (chk_none (tld_none hgo))
          clear hE hR hk1 hn hok hf hq hM hfk hfg hgo hj
          go_enter Tryz.func43, Tryz.ntmps43
          go_wp2_with fail
          refine Calls.mono (H1.out _ (HE0.out.below ((Below.refl _ _).alloc (Nat.le_refl _) _)) (HR0.out.below ((Below.refl _ _).alloc (Nat.le_refl _) _))) ?_
          rintro e w1 ⟨rfl, hr, hg⟩
          have HR1 : Hid _ := hr
          have HG1 : Hid (w.grownBy w1 (some b)) := gr_from hg
          have HX1 : Hid _ := gr_obj hg (heap_alloc_new w _) hne
          clear hg hr
          go_wp2_with fail
          refine Calls.mono (H2.out _ ((HE0.out.step HG1.out).below ((Below.refl _ _).alloc (Nat.le_refl _) _)) (HR1.out.below ((Below.refl _ _).alloc (Nat.le_refl _) _))) ?_
          rintro e w2 ⟨rfl, hr, hg⟩
          have HR2 : Hid _ := hr
          have HG2 : Hid (w.grownBy w2 (some b)) := gr_trans (gr_alloc HG1.out) hg
          have HX2 : Hid _ := gr_obj hg ((Below.heap_alloc w1 _ _ (lt_heap HX1.out)).trans HX1.out) hne
          have HM2 : Hid _ := gr_obj hg (heap_alloc_new w1 _) (by have := HG1.out.size; omega)
          clear hg hr
          go_wp2_with fail
          refine Calls.mono (H3.out _ (HE0.out.step HG2.out) HR2.out) ?_
          rintro e w3 ⟨rfl, hr, hg⟩
          have HR3 : Hid _ := hr
          have HG3 : Hid (w.grownBy w3 (some b)) := gr_trans HG2.out hg
          have HX3 : Hid _ := gr_obj hg HX2.out hne
          have HM3 : Hid _ := gr_obj hg HM2.out (by have := HG1.out.size; omega)
          clear hg hr
          go_wp2_with (first | (go_at_call 19; refine Calls.mono (must_yes _ _) ?_; rintro e w_ ⟨rfl, hw_⟩; have hw3 := hw_.symm; clear hw_; subst hw3) | fail)
          refine Calls.mono (H4.out _ (HE0.out.step HG3.out) HR3.out) ?_
          rintro e w4 ⟨rfl, hg⟩
          have HG4 : Hid (w.grownBy w4 (some b)) := gr_trans HG3.out hg
          clear hg
          go_wp2
          exact ⟨rfl, m_none HN.out rfl, HG4.out⟩
        | some j =>
          rw [hj] at hgo
          obtain ⟨x, hx⟩ : ∃ x, s.extract f j = x := ⟨_, rfl⟩
          simp only [hx] at hgo
          cases hb : refs.textB x
          · have H4 : Hid (∀ W, Env w0 W b ad L → Rm W b s f ad L.length c → _) := fun W h1 h2 => txt_long hs hfl (by decide) hj hx hb h1 h2
            have HN : Hid (M = none) := hM.symm.trans (chk_no (tld_some hgo) hb)
            clear hE hR hk1 hn hok hf hq hM hfk hfg hgo hj hx hb
            go_enter Tryz.func43, Tryz.ntmps43
            go_wp2_with fail
            refine Calls.mono (H1.out _ (HE0.out.below ((Below.refl _ _).alloc (Nat.le_refl _) _)) (HR0.out.below ((Below.refl _ _).alloc (Nat.le_refl _) _))) ?_
            rintro e w1 ⟨rfl, hr, hg⟩
            have HR1 : Hid _ := hr
            have HG1 : Hid (w.grownBy w1 (some b)) := gr_from hg
            have HX1 : Hid _ := gr_obj hg (heap_alloc_new w _) hne
            clear hg hr
            go_wp2_with fail
            refine Calls.mono (H2.out _ ((HE0.out.step HG1.out).below ((Below.refl _ _).alloc (Nat.le_refl _) _)) (HR1.out.below ((Below.refl _ _).alloc (Nat.le_refl _) _))) ?_
            rintro e w2 ⟨rfl, hr, hg⟩
            have HR2 : Hid _ := hr
            have HG2 : Hid (w.grownBy w2 (some b)) := gr_trans (gr_alloc HG1.out) hg
            have HX2 : Hid _ := gr_obj hg ((Below.heap_alloc w1 _ _ (lt_heap HX1.out)).trans HX1.out) hne
            have HM2 : Hid _ := gr_obj hg (heap_alloc_new w1 _) (by have := HG1.out.size; omega)
            clear hg hr
            go_wp2_with fail
            refine Calls.mono (H3.out _ (HE0.out.step HG2.out) HR2.out) ?_
            rintro e w3 ⟨rfl, hr, hg⟩
            have HR3 : Hid _ := hr
            have HG3 : Hid (w.grownBy w3 (some b)) := gr_trans HG2.out hg
            have HX3 : Hid _ := gr_obj hg HX2.out hne
            have HM3 : Hid _ := gr_obj hg HM2.out (by have := HG1.out.size; omega)
            clear hg hr
            go_wp2_with (first | (go_at_call 19; refine Calls.mono (must_yes _ _) ?_; rintro e w_ ⟨rfl, hw_⟩; have hw3 := hw_.symm; clear hw_; subst hw3) | fail)
            refine Calls.mono (H4.out _ (HE0.out.step HG3.out) HR3.out) ?_
            rintro e w4 ⟨rfl, hg⟩
            have HG4 : Hid (w.grownBy w4 (some b)) := gr_trans HG3.out hg
            clear hg
            go_wp2
            exact ⟨rfl, m_none HN.out rfl, HG4.out⟩
          · have H4 : Hid (∀ W, Env w0 W b ad L → Rm W b s f ad L.length c → _) := fun W h1 h2 => txt_some hs hfl (by decide) hj hx hb h1 h2
            have HN : Hid (M = some (⟨5, n, [], false, x⟩, j + 2)) := hM.symm.trans (chk_yes (tld_some hgo) hb)
            clear hE hR hk1 hn hok hf hq hM hfk hfg hgo hj hx hb
            go_enter Tryz.func43, Tryz.ntmps43
            go_wp2_with fail
            refine Calls.mono (H1.out _ (HE0.out.below ((Below.refl _ _).alloc (Nat.le_refl _) _)) (HR0.out.below ((Below.refl _ _).alloc (Nat.le_refl _) _))) ?_
            rintro e w1 ⟨rfl, hr, hg⟩
            have HR1 : Hid _ := hr
            have HG1 : Hid (w.grownBy w1 (some b)) := gr_from hg
            have HX1 : Hid _ := gr_obj hg (heap_alloc_new w _) hne
            clear hg hr
            go_wp2_with fail
            refine Calls.mono (H2.out _ ((HE0.out.step HG1.out).below ((Below.refl _ _).alloc (Nat.le_refl _) _)) (HR1.out.below ((Below.refl _ _).alloc (Nat.le_refl _) _))) ?_
            rintro e w2 ⟨rfl, hr, hg⟩
            have HR2 : Hid _ := hr
            have HG2 : Hid (w.grownBy w2 (some b)) := gr_trans (gr_alloc HG1.out) hg
            have HX2 : Hid _ := gr_obj hg ((Below.heap_alloc w1 _ _ (lt_heap HX1.out)).trans HX1.out) hne
            have HM2 : Hid _ := gr_obj hg (heap_alloc_new w1 _) (by have := HG1.out.size; omega)
            clear hg hr
            go_wp2_with fail
            refine Calls.mono (H3.out _ (HE0.out.step HG2.out) HR2.out) ?_
            rintro e w3 ⟨rfl, hr, hg⟩
            have HR3 : Hid _ := hr
            have HG3 : Hid (w.grownBy w3 (some b)) := gr_trans HG2.out hg
            have HX3 : Hid _ := gr_obj hg HX2.out hne
            have HM3 : Hid _ := gr_obj hg HM2.out (by have := HG1.out.size; omega)
            clear hg hr
            go_wp2_with (first | (go_at_call 19; refine Calls.mono (must_yes _ _) ?_; rintro e w_ ⟨rfl, hw_⟩; have hw3 := hw_.symm; clear hw_; subst hw3) | fail)
            refine Calls.mono (H4.out _ (HE0.out.step HG3.out) HR3.out) ?_
            rintro e w4 ⟨rfl, hr, hg⟩
            have HR4 : Hid _ := hr
            have HG4 : Hid (w.grownBy w4 (some b)) := gr_trans HG3.out hg
            have HX4 : Hid _ := gr_obj hg HX3.out hne
            have HM4 : Hid _ := gr_obj hg HM3.out (by have := HG1.out.size; omega)
            clear hg hr
            have hmb : w1.heap.size ≠ w.heap.size := by have := lt_heap HX1.out; omega
            have hmb2 : w1.heap.size ≠ b := by have := lt_heap HX1.out; omega
            have hmb3 : w.heap.size ≤ w1.heap.size := HG1.out.size
            obtain ⟨⟨o0, o1, o2, o3, o4⟩, q0, q1, q2, q3, q4⟩ := box5 HX4.out
            obtain ⟨⟨m0, m1, m2, m3, m4⟩, p0, p1, p2, p3, p4⟩ := box5 HM4.out
            go_wp2
            refine bodyPost_ret (by simp [results, Tryz.results43, go_sem, o0, o1, o2, o3, o4]; try rfl) rfl ?_
            exact ⟨m_plain HN.out rfl (rd_five (rd_set2 HR4.out hmb2) hne), gr_five (gr_set2 HG4.out hmb3) (Nat.le_refl _)⟩
    · have H2 : Hid (∀ W, Env w0 W b ad L → Rm W b s k1 ad L.length c → _) := fun W h1 h2 => take_H _ s ⟨#[63, 62]⟩ k1 b _ W hs hkl (by decide) true (k1 + 2) hq rfl h2
      have HN : Hid (M = some (⟨5, n, [], false, ⟨#[]⟩⟩, k1 + 2)) := hM.symm.trans (chk_yes (tld_some (toldE_end hk1 hn hok hq)) text_nil)
      clear hE hR hk1 hn hok hq hM
      go_enter Tryz.func43, Tryz.ntmps43
      go_wp2_with fail
      refine Calls.mono (H1.out _ (HE0.out.below ((Below.refl _ _).alloc (Nat.le_refl _) _)) (HR0.out.below ((Below.refl _ _).alloc (Nat.le_refl _) _))) ?_
      rintro e w1 ⟨rfl, hr, hg⟩
      have HR1 : Hid _ := hr
      have HG1 : Hid (w.grownBy w1 (some b)) := gr_from hg
      have HX1 : Hid _ := gr_obj hg (heap_alloc_new w _) hne
      clear hg hr
      go_wp2_with fail
      refine Calls.mono (H2.out _ ((HE0.out.step HG1.out).below ((Below.refl _ _).alloc (Nat.le_refl _) _)) (HR1.out.below ((Below.refl _ _).alloc (Nat.le_refl _) _))) ?_
      rintro e w2 ⟨rfl, hr, hg⟩
      have HR2 : Hid _ := hr
      have HG2 : Hid (w.grownBy w2 (some b)) := gr_trans (gr_alloc HG1.out) hg
      have HX2 : Hid _ := gr_obj hg ((Below.heap_alloc w1 _ _ (lt_heap HX1.out)).trans HX1.out) hne
      have HM2 : Hid _ := gr_obj hg (heap_alloc_new w1 _) (by have := HG1.out.size; omega)
      clear hg hr
      obtain ⟨⟨o0, o1, o2, o3, o4⟩, q0, q1, q2, q3, q4⟩ := box5 HX2.out
      obtain ⟨⟨m0, m1, m2, m3, m4⟩, p0, p1, p2, p3, p4⟩ := box5 HM2.out
      go_wp2
      refine bodyPost_ret (by simp [results, Tryz.results43, go_sem, o0, o1, o2, o3, o4]; try rfl) rfl ?_
      exact ⟨m_plain HN.out rfl (rd_five HR2.out hne), gr_five HG2.out (Nat.le_refl _)⟩
  · have H1 : Hid (∀ W, Env w0 W b ad L → Rm W b s (a + 2) ad L.length c → _) := fun W h1 h2 => name_no s n (a + 2) k1 b ad L.length c W hs ha hk1 hn hok h1.xt.tab.name h2
    have HN : Hid (M = none) := hM.symm.trans (chk_none (tld_none (toldE_no (by rw [hk1, hn]; exact hok))))
    clear hE hR hk1 hn hok hM
    go_enter Tryz.func43, Tryz.ntmps43
    go_wp2_with fail
    refine Calls.mono (H1.out _ (HE0.out.below ((Below.refl _ _).alloc (Nat.le_refl _) _)) (HR0.out.below ((Below.refl _ _).alloc (Nat.le_refl _) _))) ?_
    rintro e w1 ⟨rfl, hg⟩
    have HG1 : Hid (w.grownBy w1 (some b)) := gr_from hg
    clear hg
    go_wp2
    exact ⟨rfl, m_none HN.out rfl, HG1.out⟩
end Go.Proofs.YtehdpkigfjjbaaaGreatDoor.cuts
