/-
  The program's reader of marks: what it asks for, or gives up: names, texts up to an end, what is expanded, what stands between quotes, and one of what an element has.
-/
import Derived.Test.YtehdpkigfjjbaaaGreatDoorImplCur
import Derived.WalkSmall
import Derived.WalkLawsBesides
namespace Go.Proofs.YtehdpkigfjjbaaaGreatDoor.cuts
open Go.ChangeShapes Go.WideShapes Go.ChangeAt Go.RowKit
open names (splitT nameE)
open marks (blanksE)
open pairs (Pair at0 PairsAt)
open trees (Rng Out Bset)
set_option linter.unusedVariables false
/-- What a call ends with that gives up. -/
def gaveUp (e : Ending) : Prop := e = .panicked [{ v := .iface 9 (.string ⟨#[105, 116, 32, 100, 111, 101, 115, 32, 110, 111, 116, 32, 103, 111, 32, 111, 110, 32, 115, 111]⟩), recovered := false }]
/-- What a reader's block may count on: the tables and the list that its call was handed lie below it. -/
structure Env (w0 w : World) (b : Nat) (ad : Option Addr) (L : List Pair) : Prop where
  tab : refs.XTabs w0
  row : PairsAt w0 ad L
  ge : w0.heap.size ≤ b
  bel : Below w0.heap.size w0 w
theorem Env.step {w0 w w' : World} {b : Nat} {ad : Option Addr} {L : List Pair} (h : Env w0 w b ad L) (hg : w.grownBy w' (some b)) : Env w0 w' b ad L :=
  ⟨h.tab, h.row, h.ge, h.bel.trans ⟨hg.os, hg.tape, hg.output, hg.size, fun k hk => hg.block k (Nat.lt_of_lt_of_le hk h.bel.size) (fun e => by cases e; have := h.ge; omega)⟩⟩
theorem Env.below {w0 w w' : World} {b : Nat} {ad : Option Addr} {L : List Pair} (h : Env w0 w b ad L) (hb : Below w.heap.size w w') : Env w0 w' b ad L := h.step (gr_below hb)
theorem Env.xt {w0 w : World} {b : Nat} {ad : Option Addr} {L : List Pair} (h : Env w0 w b ad L) : refs.XTabs w := h.tab.below h.bel
theorem Env.pairs {w0 w : World} {b : Nat} {ad : Option Addr} {L : List Pair} (h : Env w0 w b ad L) : PairsAt w ad L := h.row.below (Nat.le_refl _) h.bel
/-- The reader of marks: its block holds the list besides. -/
abbrev Rm (w : World) (b : Nat) (s : ByteArray) (k : Nat) (ad : Option Addr) (n c : Nat) : Prop := Rd 49 w b s k #[.slice ad n c]
theorem rm_third {w : World} {b : Nat} {s : ByteArray} {k : Nat} {ad : Option Addr} {n c : Nat} (h : Rm w b s k ad n c) : w.cell? ⟨b, 2, none⟩ = some (.slice ad n c) := by
  have := h.blk
  simp [World.cell?, this]
theorem gr_set2 {w w1 : World} {b g i : Nat} {u : Value} (h : w.grownBy w1 (some b)) (hg : w.heap.size ≤ g) : w.grownBy (w1.setCell ⟨g, i, none⟩ u) (some b) :=
  ⟨h.os, h.tape, h.output, by rw [trees.size_setCell]; exact h.size, fun k hk hne => (Below.heap_setCell w1 ⟨g, i, none⟩ u k (by show k ≠ g; omega)).trans (h.block k hk hne)⟩
theorem gr_alloc {w w1 : World} {b : Nat} {o : Obj} (h : w.grownBy w1 (some b)) : w.grownBy (w1.alloc o) (some b) := gr_trans h (gr_below ((Below.refl _ _).alloc (Nat.le_refl _) o))
theorem gr_from {w w1 : World} {b : Nat} {o : Obj} (h : (w.alloc o).grownBy w1 (some b)) : w.grownBy w1 (some b) := gr_trans (gr_alloc (pairs.grown_refl _ _)) h
set_option maxRecDepth 100000 in
theorem must_yes (p : Value) (w : World) : Calls Tryz.prog 19 #[p, .bool true] w fun e w' => e = .returned (.tuple #[]) ∧ w' = w := by
  go_enter Tryz.func19, Tryz.ntmps19
  go_wp2
  exact ⟨rfl, _, results_none rfl _ _ _, rfl, rfl⟩
set_option maxRecDepth 100000 in
theorem must_no (p : Value) (w : World) : Calls Tryz.prog 19 #[p, .bool false] w fun e w' => e = .panicked [{ v := .iface 9 (.string ⟨#[105, 116, 32, 100, 111, 101, 115, 32, 110, 111, 116, 32, 103, 111, 32, 111, 110, 32, 115, 111]⟩), recovered := false }] ∧ w' = w := by
  go_enter Tryz.func19, Tryz.ntmps19
  go_wp2
  exact ⟨rfl, rfl, rfl⟩
set_option maxRecDepth 100000 in
set_option maxHeartbeats 2000000 in
theorem name_yes (s x : ByteArray) (k j b : Nat) (ad : Option Addr) (n c : Nat) (w : World) (hs : s.size ≤ 1048576) (hk : k ≤ s.size) (hj : nameE s k = j) (hx : s.extract k j = x) (hok : (splitT x).2.2 = true) (hT : names.Tabs w) (hR : Rm w b s k ad n c) : Calls Tryz.prog 65 #[.pointer (some ⟨b, 0, none⟩)] w fun e w' => e = .returned (.string x) ∧ Rm w' b s j ad n c ∧ w.grownBy w' (some b) := by
  have h1 := cur_name _ s k b _ w hs hk hT hR
  rw [hj, hx] at h1
  simp only [if_pos hok] at h1
  have H1 : Hid _ := h1
  clear h1 hx hok hR hT hj
  go_enter Tryz.func65, Tryz.ntmps65
  go_wp2_with fail
  refine Calls.mono H1.out ?_
  rintro e w1 ⟨⟨rfl, hr⟩, hg⟩
  have HR : Hid _ := hr
  have HG : Hid _ := hg
  clear hr hg
  go_wp2_with (go_at_call 19; refine Calls.mono (must_yes _ _) ?_; rintro e w2 ⟨rfl, hw2⟩; have hw3 := hw2.symm; clear hw2; subst hw3)
  go_ret
  exact ⟨rfl, HR.out, HG.out⟩
set_option maxRecDepth 100000 in
set_option maxHeartbeats 2000000 in
theorem name_no (s x : ByteArray) (k j b : Nat) (ad : Option Addr) (n c : Nat) (w : World) (hs : s.size ≤ 1048576) (hk : k ≤ s.size) (hj : nameE s k = j) (hx : s.extract k j = x) (hok : ¬ (splitT x).2.2 = true) (hT : names.Tabs w) (hR : Rm w b s k ad n c) : Calls Tryz.prog 65 #[.pointer (some ⟨b, 0, none⟩)] w fun e w' => e = .panicked [{ v := .iface 9 (.string ⟨#[105, 116, 32, 100, 111, 101, 115, 32, 110, 111, 116, 32, 103, 111, 32, 111, 110, 32, 115, 111]⟩), recovered := false }] ∧ w.grownBy w' (some b) := by
  have h1 := cur_name _ s k b _ w hs hk hT hR
  rw [hj, hx] at h1
  simp only [if_neg hok] at h1
  have H1 : Hid _ := h1
  clear h1 hx hok hR hT hj
  go_enter Tryz.func65, Tryz.ntmps65
  go_wp2_with fail
  refine Calls.mono H1.out ?_
  rintro e w1 ⟨⟨rfl, hr⟩, hg⟩
  have HG : Hid _ := hg
  clear hr hg
  go_wp2_with (go_at_call 19; refine Calls.mono (must_no _ _) ?_; rintro e w2 ⟨rfl, hw2⟩; have hw3 := hw2.symm; clear hw2; subst hw3)
  exact ⟨rfl, rfl, HG.out⟩
/-- What textUpTo answers. -/
def txtOk (s t : ByteArray) (k b : Nat) (ad : Option Addr) (n c : Nat) (w' : World) (e : Ending) : Prop :=
  match toI s t k with
  | none => gaveUp e
  | some j => if refs.textB (s.extract k j) = true then e = .returned (.string (s.extract k j)) ∧ Rm w' b s (j + t.size) ad n c else gaveUp e
theorem txt_none {s t : ByteArray} {k b : Nat} {ad : Option Addr} {n c : Nat} {w' : World} {e : Ending} (hj : toI s t k = none) (h : gaveUp e) : txtOk s t k b ad n c w' e := by unfold txtOk; rw [hj]; exact h
theorem txt_no {s t : ByteArray} {k b j : Nat} {ad : Option Addr} {n c : Nat} {w' : World} {e : Ending} (hj : toI s t k = some j) (ht : refs.textB (s.extract k j) = false) (h : gaveUp e) : txtOk s t k b ad n c w' e := by unfold txtOk; rw [hj]; show if _ then _ else _; rw [if_neg (by rw [ht]; decide)]; exact h
theorem txt_yes {s t : ByteArray} {k b j : Nat} {ad : Option Addr} {n c : Nat} {w' : World} {e : Ending} (hj : toI s t k = some j) (ht : refs.textB (s.extract k j) = true) (h : e = .returned (.string (s.extract k j)) ∧ Rm w' b s (j + t.size) ad n c) : txtOk s t k b ad n c w' e := by unfold txtOk; rw [hj]; show if _ then _ else _; rw [if_pos ht]; exact h
theorem text_H (s : ByteArray) (v : Bool) (hs : s.size ≤ 1048576) (h : refs.textB s = v) (w : World) (hT : refs.XTabs w) : Calls Tryz.prog 40 #[.string s] w fun e w' => e = .returned (.bool v) ∧ Below w.heap.size w w' := by
  have := refs.impl_textB s w (by unfold maxLen; omega) hT.tab
  rw [h] at this
  exact this
set_option maxRecDepth 100000 in
set_option maxHeartbeats 2000000 in
theorem rd_text (s t : ByteArray) (k b : Nat) (w0 : World) (ad : Option Addr) (L : List Pair) (n c : Nat) (w : World) (hs : s.size ≤ 1048576) (hk : k ≤ s.size) (ht : 0 < t.size) (hE : Env w0 w b ad L) (hR : Rm w b s k ad n c) : Calls Tryz.prog 42 #[.pointer (some ⟨b, 0, none⟩), .string t] w fun e w' => txtOk s t k b ad n c w' e ∧ w.grownBy w' (some b) := by
  have h1 := cur_up _ s t k b _ w hs hk ht hE.xt.max hR
  have HE : Hid (Env w0 w b ad L) := hE
  have HSZ : Hid (s.size ≤ 1048576) := hs
  cases hj : toI s t k with
  | none =>
    have HJ : Hid _ := hj
    have H1 : Hid (Calls Tryz.prog 64 #[.pointer (some ⟨b, 0, none⟩), .string t] w fun e w' => e = .returned (.tuple #[.string ⟨#[]⟩, .bool false]) ∧ w.grownBy w' (some b)) := h1.mono (fun e w' ⟨h, hg⟩ => by
      unfold upOk at h; rw [hj] at h; exact ⟨h.1, hg⟩)
    clear h1 hj hR hE
    go_enter Tryz.func42, Tryz.ntmps42
    go_wp2_with fail
    refine Calls.mono H1.out ?_
    rintro e w1 ⟨rfl, hg⟩
    have HG : Hid _ := hg
    clear hg
    go_wp2_with (go_at_call 19; refine Calls.mono (must_no _ _) ?_; rintro e w2 ⟨rfl, hw2⟩; have hw3 := hw2.symm; clear hw2; subst hw3)
    exact ⟨rfl, txt_none HJ.out rfl, HG.out⟩
  | some j =>
    have HJ : Hid _ := hj
    have H1 : Hid (Calls Tryz.prog 64 #[.pointer (some ⟨b, 0, none⟩), .string t] w fun e w' => (e = .returned (.tuple #[.string (s.extract k j), .bool true]) ∧ Rm w' b s (j + t.size) ad n c) ∧ w.grownBy w' (some b)) := h1.mono (fun e w' ⟨h, hg⟩ => by
      unfold upOk at h; rw [hj] at h; exact ⟨h, hg⟩)
    obtain ⟨x, hx⟩ : ∃ x, s.extract k j = x := ⟨_, rfl⟩
    have HX : Hid _ := hx
    have hxz : x.size ≤ 1048576 := by rw [← hx, ByteArray.size_extract]; omega
    rw [hx] at H1
    cases htx : refs.textB x
    · have HT : Hid (∀ W, refs.XTabs W → _) := fun W h => text_H x false hxz htx W h
      have HN : Hid (refs.textB (s.extract k j) = false) := by show _ = _; rw [hx]; exact htx
      clear h1 hj hR hE hx htx
      go_enter Tryz.func42, Tryz.ntmps42
      go_wp2_with fail
      refine Calls.mono H1.out ?_
      rintro e w1 ⟨⟨rfl, hr⟩, hg⟩
      have HG : Hid _ := hg
      clear hg hr
      go_wp2_with fail
      refine Calls.mono (HT.out _ (HE.out.step HG.out).xt) ?_
      rintro e w2 ⟨rfl, hb⟩
      have HG2 : Hid _ := gr_trans HG.out (gr_below hb)
      clear hb
      go_wp2_with (go_at_call 19; refine Calls.mono (must_no _ _) ?_; rintro e w2 ⟨rfl, hw2⟩; have hw3 := hw2.symm; clear hw2; subst hw3)
      exact ⟨rfl, txt_no HJ.out HN.out rfl, HG2.out⟩
    · have HT : Hid (∀ W, refs.XTabs W → _) := fun W h => text_H x true hxz htx W h
      have HN : Hid (refs.textB (s.extract k j) = true) := by show _ = _; rw [hx]; exact htx
      clear h1 hj hR hE hx htx
      go_enter Tryz.func42, Tryz.ntmps42
      go_wp2_with fail
      refine Calls.mono H1.out ?_
      rintro e w1 ⟨⟨rfl, hr⟩, hg⟩
      have HG : Hid _ := hg
      have HR : Hid _ := hr
      clear hg hr
      go_wp2_with fail
      refine Calls.mono (HT.out _ (HE.out.step HG.out).xt) ?_
      rintro e w2 ⟨rfl, hb⟩
      have HG2 : Hid _ := gr_trans HG.out (gr_below hb)
      have HR2 : Hid _ := HR.out.below hb
      clear hb
      go_wp2_with (go_at_call 19; refine Calls.mono (must_yes _ _) ?_; rintro e w2 ⟨rfl, hw2⟩; have hw3 := hw2.symm; clear hw2; subst hw3)
      go_ret
      exact ⟨txt_yes HJ.out HN.out ⟨by rw [HX.out]; rfl, HR2.out⟩, HG2.out⟩
theorem txt_some {s t x : ByteArray} {k b j : Nat} {w0 : World} {ad : Option Addr} {L : List Pair} {n c : Nat} {w : World} (hs : s.size ≤ 1048576) (hk : k ≤ s.size) (ht : 0 < t.size) (hj : toI s t k = some j) (hx : s.extract k j = x) (hb : refs.textB x = true) (hE : Env w0 w b ad L) (hR : Rm w b s k ad n c) : Calls Tryz.prog 42 #[.pointer (some ⟨b, 0, none⟩), .string t] w fun e w' => e = .returned (.string x) ∧ Rm w' b s (j + t.size) ad n c ∧ w.grownBy w' (some b) :=
  (rd_text s t k b w0 ad L n c w hs hk ht hE hR).mono (fun e w' ⟨h, hg⟩ => by
    unfold txtOk at h
    rw [hj] at h
    simp only [hx, if_pos hb] at h
    exact ⟨h.1, h.2, hg⟩)
theorem txt_long {s t x : ByteArray} {k b j : Nat} {w0 : World} {ad : Option Addr} {L : List Pair} {n c : Nat} {w : World} (hs : s.size ≤ 1048576) (hk : k ≤ s.size) (ht : 0 < t.size) (hj : toI s t k = some j) (hx : s.extract k j = x) (hb : refs.textB x = false) (hE : Env w0 w b ad L) (hR : Rm w b s k ad n c) : Calls Tryz.prog 42 #[.pointer (some ⟨b, 0, none⟩), .string t] w fun e w' => e = .panicked [{ v := .iface 9 (.string ⟨#[105, 116, 32, 100, 111, 101, 115, 32, 110, 111, 116, 32, 103, 111, 32, 111, 110, 32, 115, 111]⟩), recovered := false }] ∧ w.grownBy w' (some b) :=
  (rd_text s t k b w0 ad L n c w hs hk ht hE hR).mono (fun e w' ⟨h, hg⟩ => by
    unfold txtOk at h
    rw [hj] at h
    simp only [hx, hb] at h
    exact ⟨h, hg⟩)
theorem txt_miss {s t : ByteArray} {k b : Nat} {w0 : World} {ad : Option Addr} {L : List Pair} {n c : Nat} {w : World} (hs : s.size ≤ 1048576) (hk : k ≤ s.size) (ht : 0 < t.size) (hj : toI s t k = none) (hE : Env w0 w b ad L) (hR : Rm w b s k ad n c) : Calls Tryz.prog 42 #[.pointer (some ⟨b, 0, none⟩), .string t] w fun e w' => e = .panicked [{ v := .iface 9 (.string ⟨#[105, 116, 32, 100, 111, 101, 115, 32, 110, 111, 116, 32, 103, 111, 32, 111, 110, 32, 115, 111]⟩), recovered := false }] ∧ w.grownBy w' (some b) :=
  (rd_text s t k b w0 ad L n c w hs hk ht hE hR).mono (fun e w' ⟨h, hg⟩ => by
    unfold txtOk at h
    rw [hj] at h
    exact ⟨h, hg⟩)
theorem expand_I (s x : ByteArray) (ok : Bool) (L : List Pair) (hs : s.size ≤ maxLen) (hv : ∀ i, i < L.length → (at0 L i).2.size ≤ 1048576) (h : refs.expandR s L = (x, ok)) (a : Option Addr) (cap : Nat) (w : World) (hT : refs.XTabs w) (hL : PairsAt w a L) : Calls Tryz.prog 84 #[.string s, .slice a L.length cap] w fun e w' => e = .returned (.tuple #[.string x, .bool ok]) ∧ Below w.heap.size w w' := by
  have := refs.impl_expand s a L cap w hs hT hL hv
  rw [h] at this
  exact this
set_option maxRecDepth 100000 in
set_option maxHeartbeats 2000000 in
theorem rd_expanded (s y x : ByteArray) (ok : Bool) (k b : Nat) (w0 : World) (ad : Option Addr) (L : List Pair) (c : Nat) (w : World) (hy : y.size ≤ 1048576) (hv : ∀ i, i < L.length → (at0 L i).2.size ≤ 1048576) (hx : refs.expandR y L = (x, ok)) (hE : Env w0 w b ad L) (hR : Rm w b s k ad L.length c) : Calls Tryz.prog 70 #[.pointer (some ⟨b, 0, none⟩), .string y] w fun e w' => (if ok = true then e = .returned (.string x) ∧ Rm w' b s k ad L.length c else gaveUp e) ∧ w.grownBy w' (some b) := by
  have c2 := rm_third hR
  have HE : Hid (Env w0 w b ad L) := hE
  have HR : Hid _ := hR
  have H1 : Hid (∀ W, refs.XTabs W → PairsAt W ad L → _) := fun W h1 h2 => expand_I y x ok L (by unfold maxLen; omega) hv hx ad c W h1 h2
  clear hE hR hx hv
  cases ok
  · go_enter Tryz.func70, Tryz.ntmps70
    go_wp2_with fail
    refine Calls.mono (H1.out _ HE.out.xt HE.out.pairs) ?_
    rintro e w1 ⟨rfl, hb⟩
    have HG : Hid (w.grownBy w1 (some b)) := gr_below hb
    clear hb
    go_wp2_with (go_at_call 19; refine Calls.mono (must_no _ _) ?_; rintro e w2 ⟨rfl, hw2⟩; have hw3 := hw2.symm; clear hw2; subst hw3)
    first | exact ⟨rfl, rfl, HG.out⟩ | exact ⟨rfl, by rw [if_neg (by decide)]; exact rfl, HG.out⟩
  · go_enter Tryz.func70, Tryz.ntmps70
    go_wp2_with fail
    refine Calls.mono (H1.out _ HE.out.xt HE.out.pairs) ?_
    rintro e w1 ⟨rfl, hb⟩
    have HG : Hid (w.grownBy w1 (some b)) := gr_below hb
    have HR1 : Hid _ := HR.out.below hb
    clear hb
    go_wp2_with (go_at_call 19; refine Calls.mono (must_yes _ _) ?_; rintro e w2 ⟨rfl, hw2⟩; have hw3 := hw2.symm; clear hw2; subst hw3)
    go_ret
    first | exact ⟨⟨rfl, HR1.out⟩, HG.out⟩ | exact ⟨by rw [if_pos rfl]; exact ⟨rfl, HR1.out⟩, HG.out⟩
theorem exp_yesI {s y x : ByteArray} {k b : Nat} {w0 : World} {ad : Option Addr} {L : List Pair} {c : Nat} {w : World} (hy : y.size ≤ 1048576) (hv : ∀ i, i < L.length → (at0 L i).2.size ≤ 1048576) (hx : refs.expandR y L = (x, true)) (hE : Env w0 w b ad L) (hR : Rm w b s k ad L.length c) : Calls Tryz.prog 70 #[.pointer (some ⟨b, 0, none⟩), .string y] w fun e w' => e = .returned (.string x) ∧ Rm w' b s k ad L.length c ∧ w.grownBy w' (some b) :=
  (rd_expanded s y x true k b w0 ad L c w hy hv hx hE hR).mono (fun e w' ⟨h, hg⟩ => by
    rw [if_pos rfl] at h
    exact ⟨h.1, h.2, hg⟩)
theorem exp_noI {s y x : ByteArray} {k b : Nat} {w0 : World} {ad : Option Addr} {L : List Pair} {c : Nat} {w : World} (hy : y.size ≤ 1048576) (hv : ∀ i, i < L.length → (at0 L i).2.size ≤ 1048576) (hx : refs.expandR y L = (x, false)) (hE : Env w0 w b ad L) (hR : Rm w b s k ad L.length c) : Calls Tryz.prog 70 #[.pointer (some ⟨b, 0, none⟩), .string y] w fun e w' => e = .panicked [{ v := .iface 9 (.string ⟨#[105, 116, 32, 100, 111, 101, 115, 32, 110, 111, 116, 32, 103, 111, 32, 111, 110, 32, 115, 111]⟩), recovered := false }] ∧ w.grownBy w' (some b) :=
  (rd_expanded s y x false k b w0 ad L c w hy hv hx hE hR).mono (fun e w' ⟨h, hg⟩ => by
    rw [if_neg (by decide)] at h
    exact ⟨h, hg⟩)
/-- What stands between quotes there: the text, and the place behind. -/
def quoE (s : ByteArray) (k : Nat) : Option (ByteArray × Nat) :=
  if isAt s ⟨#[34]⟩ k = true ∨ isAt s ⟨#[39]⟩ k = true then
    match toI s (s.extract k (k + 1)) (k + 1) with
    | none => none
    | some j => if trees.hasB (s.extract (k + 1) j) ⟨#[60]⟩ = false then some (s.extract (k + 1) j, j + 1) else none
  else none
/-- The same, by the quote that stands there. -/
def quoT (s q : ByteArray) (k : Nat) : Option (ByteArray × Nat) :=
  match toI s q (k + 1) with
  | none => none
  | some j => if trees.hasB (s.extract (k + 1) j) ⟨#[60]⟩ = false then some (s.extract (k + 1) j, j + 1) else none
theorem isAt_text {s t : ByteArray} {k : Nat} (h : isAt s t k = true) : s.extract k (k + t.size) = t := by
  rw [isAt_in (isAt_le h)] at h
  exact refs.toList_eq.1 h
theorem isAt_one_text {s : ByteArray} {c : UInt8} {k : Nat} (h : isAt s ⟨#[c]⟩ k = true) : s.extract k (k + 1) = ⟨#[c]⟩ := by
  have h1 := isAt_text h
  have e : (⟨#[c]⟩ : ByteArray).size = 1 := rfl
  rw [e] at h1
  exact h1
theorem quo_two {s : ByteArray} {k : Nat} (h : isAt s ⟨#[34]⟩ k = true) : quoE s k = quoT s ⟨#[34]⟩ k := by
  unfold quoE quoT
  rw [if_pos (.inl h), isAt_one_text h]
theorem quo_one {s : ByteArray} {k : Nat} (h : isAt s ⟨#[39]⟩ k = true) : quoE s k = quoT s ⟨#[39]⟩ k := by
  unfold quoE quoT
  rw [if_pos (.inr h), isAt_one_text h]
theorem quo_none {s : ByteArray} {k : Nat} (h : isAt s ⟨#[34]⟩ k = false) (h1 : isAt s ⟨#[39]⟩ k = false) : quoE s k = none := by
  unfold quoE
  rw [if_neg (by rw [h, h1]; decide)]
theorem quoT_none {s q : ByteArray} {k : Nat} (h : toI s q (k + 1) = none) : quoT s q k = none := by unfold quoT; rw [h]
theorem quoT_bad {s q : ByteArray} {k j : Nat} (h : toI s q (k + 1) = some j) (hh : trees.hasB (s.extract (k + 1) j) ⟨#[60]⟩ = true) : quoT s q k = none := by unfold quoT; rw [h]; exact if_neg (by rw [hh]; decide)
theorem quoT_good {s q x : ByteArray} {k j : Nat} (h : toI s q (k + 1) = some j) (hx : s.extract (k + 1) j = x) (hh : trees.hasB x ⟨#[60]⟩ = false) : quoT s q k = some (x, j + 1) := by unfold quoT; rw [h, ← hx]; exact if_pos (by rw [hx]; exact hh)
/-- What takeQuoted answers. -/
def quoOk (T : TypeId) (s : ByteArray) (b : Nat) (rest : Array Value) (r : Option (ByteArray × Nat)) (w' : World) (e : Ending) : Prop :=
  match r with
  | none => ∃ x k', e = .returned (.tuple #[.string x, .bool false]) ∧ Rd T w' b s k' rest
  | some (x, j) => e = .returned (.tuple #[.string x, .bool true]) ∧ Rd T w' b s j rest
theorem quo_bad {T : TypeId} {s : ByteArray} {b : Nat} {rest : Array Value} {r : Option (ByteArray × Nat)} {w' : World} {e : Ending} {x : ByteArray} {k' : Nat} (h : r = none) (he : e = .returned (.tuple #[.string x, .bool false]) ∧ Rd T w' b s k' rest) : quoOk T s b rest r w' e := by subst h; exact ⟨x, k', he⟩
theorem quo_good {T : TypeId} {s : ByteArray} {b : Nat} {rest : Array Value} {r : Option (ByteArray × Nat)} {w' : World} {e : Ending} {x : ByteArray} {j : Nat} (h : r = some (x, j)) (he : e = .returned (.tuple #[.string x, .bool true]) ∧ Rd T w' b s j rest) : quoOk T s b rest r w' e := by subst h; exact he
theorem upOk_some {T : TypeId} {s t : ByteArray} {k b j : Nat} {rest : Array Value} {w' : World} {e : Ending} (hj : toI s t k = some j) : upOk T s t k b rest w' e ↔ (e = .returned (.tuple #[.string (s.extract k j), .bool true]) ∧ Rd T w' b s (j + t.size) rest) := by unfold upOk; rw [hj]
theorem upOk_none {T : TypeId} {s t : ByteArray} {k b : Nat} {rest : Array Value} {w' : World} {e : Ending} (hj : toI s t k = none) : upOk T s t k b rest w' e ↔ (e = .returned (.tuple #[.string ⟨#[]⟩, .bool false]) ∧ Rd T w' b s k rest) := by unfold upOk; rw [hj]
theorem up_of {T : TypeId} {s t : ByteArray} {k b j : Nat} {rest : Array Value} {w : World} (hj : toI s t k = some j) (h : Calls Tryz.prog 64 #[.pointer (some ⟨b, 0, none⟩), .string t] w fun e w' => upOk T s t k b rest w' e ∧ w.grownBy w' (some b)) : Calls Tryz.prog 64 #[.pointer (some ⟨b, 0, none⟩), .string t] w fun e w' => (e = .returned (.tuple #[.string (s.extract k j), .bool true]) ∧ Rd T w' b s (j + t.size) rest) ∧ w.grownBy w' (some b) :=
  Calls.mono h (fun e w' hh => ⟨(upOk_some hj).1 hh.1, hh.2⟩)
theorem up_ofn {T : TypeId} {s t : ByteArray} {k b : Nat} {rest : Array Value} {w : World} (hj : toI s t k = none) (h : Calls Tryz.prog 64 #[.pointer (some ⟨b, 0, none⟩), .string t] w fun e w' => upOk T s t k b rest w' e ∧ w.grownBy w' (some b)) : Calls Tryz.prog 64 #[.pointer (some ⟨b, 0, none⟩), .string t] w fun e w' => (e = .returned (.tuple #[.string ⟨#[]⟩, .bool false]) ∧ Rd T w' b s k rest) ∧ w.grownBy w' (some b) :=
  Calls.mono h (fun e w' hh => ⟨(upOk_none hj).1 hh.1, hh.2⟩)
theorem take_H (T : TypeId) (s t : ByteArray) (k b : Nat) (rest : Array Value) (w : World) (hs : s.size ≤ 1048576) (hk : k ≤ s.size) (ht : 0 < t.size) (v : Bool) (j : Nat) (hv : isAt s t k = v) (hj : isF v k t.size = j) (hR : Rd T w b s k rest) : Calls Tryz.prog 41 #[.pointer (some ⟨b, 0, none⟩), .string t] w fun e w' => e = .returned (.bool v) ∧ Rd T w' b s j rest ∧ w.grownBy w' (some b) := by
  have := cur_take T s t k b rest w hs hk ht hR
  rw [hv, hj] at this
  exact this
set_option maxRecDepth 100000 in
set_option maxHeartbeats 4000000 in
theorem cur_quoted (T : TypeId) (s : ByteArray) (k b : Nat) (rest : Array Value) (w0 w : World) (hs : s.size ≤ 1048576) (hk : k ≤ s.size) (hT : frames.MaxAt w0) (hbel : Below w0.heap.size w0 w) (hge : w0.heap.size ≤ b) (hR : Rd T w b s k rest) : Calls Tryz.prog 91 #[.pointer (some ⟨b, 0, none⟩)] w fun e w' => quoOk T s b rest (quoE s k) w' e ∧ w.grownBy w' (some b) := by
  have HR : Hid _ := hR
  have HSZ : Hid (s.size ≤ 1048576) := hs
  have HM : Hid (∀ W, w.grownBy W (some b) → frames.MaxAt W) := fun W hg => hT.below (hbel.trans ⟨hg.os, hg.tape, hg.output, hg.size, fun i hi => hg.block i (Nat.lt_of_lt_of_le hi hbel.size) (fun e => by cases e; omega)⟩)
  obtain ⟨Q, hQ⟩ : ∃ Q, quoE s k = Q := ⟨_, rfl⟩
  rw [hQ]
  cases h2 : isAt s ⟨#[34]⟩ k
  · have H1 : Hid (∀ W, Rd T W b s k rest → _) := fun W h => take_H T s ⟨#[34]⟩ k b rest W hs hk (by decide) false k h2 rfl h
    cases h1 : isAt s ⟨#[39]⟩ k
    · have H2 : Hid (∀ W, Rd T W b s k rest → _) := fun W h => take_H T s ⟨#[39]⟩ k b rest W hs hk (by decide) false k h1 rfl h
      have HN : Hid (Q = none) := hQ.symm.trans (quo_none h2 h1)
      clear hQ h1 h2 hR hT hbel
      go_enter Tryz.func91, Tryz.ntmps91
      go_wp2_with fail
      refine Calls.mono (H1.out _ HR.out) ?_
      rintro e w1 ⟨rfl, hr, hg⟩
      have HR1 : Hid _ := hr
      have HG1 : Hid _ := hg
      clear hr hg
      go_wp2_with fail
      refine Calls.mono (H2.out _ HR1.out) ?_
      rintro e w2 ⟨rfl, hr, hg⟩
      have HR2 : Hid _ := hr
      have HG2 : Hid _ := gr_trans HG1.out hg
      clear hr hg
      go_wp2
      go_ret2
      exact ⟨quo_bad HN.out ⟨rfl, HR2.out⟩, HG2.out⟩
    · have hle := isAt_le h1
      have H2 : Hid (∀ W, Rd T W b s k rest → _) := fun W h => take_H T s ⟨#[39]⟩ k b rest W hs hk (by decide) true (k + 1) h1 rfl h
      have HQ : Hid (Q = quoT s ⟨#[39]⟩ k) := hQ.symm.trans (quo_one h1)
      have H3 : Hid (∀ W, w.grownBy W (some b) → Rd T W b s (k + 1) rest → _) := fun W hg h => cur_up T s ⟨#[39]⟩ (k + 1) b rest W hs hle (by decide) (HM.out W hg) h
      clear hQ h1 h2 hR hT hbel hle
      go_enter Tryz.func91, Tryz.ntmps91
      go_wp2_with fail
      refine Calls.mono (H1.out _ HR.out) ?_
      rintro e w1 ⟨rfl, hr, hg⟩
      have HR1 : Hid _ := hr
      have HG1 : Hid _ := hg
      clear hr hg
      go_wp2_with fail
      refine Calls.mono (H2.out _ HR1.out) ?_
      rintro e w2 ⟨rfl, hr, hg⟩
      have HR2 : Hid _ := hr
      have HG2 : Hid _ := gr_trans HG1.out hg
      clear hr hg
      cases hj : toI s ⟨#[39]⟩ (k + 1) with
      | none =>
        have HN : Hid (Q = none) := HQ.out.trans (quoT_none hj)
        have H4 : Hid _ := up_ofn hj (H3.out _ HG2.out HR2.out)
        clear hj
        go_wp2_with fail
        refine Calls.mono H4.out ?_
        rintro e w3 ⟨⟨rfl, hr⟩, hg⟩
        have HR3 : Hid _ := hr
        have HG3 : Hid _ := gr_trans HG2.out hg
        clear hr hg
        go_wp2
        go_ret2
        exact ⟨quo_bad HN.out ⟨rfl, HR3.out⟩, HG3.out⟩
      | some j =>
        have H4 : Hid _ := up_of hj (H3.out _ HG2.out HR2.out)
        obtain ⟨x, hx⟩ : ∃ x, s.extract (k + 1) j = x := ⟨_, rfl⟩
        have hxz : x.size ≤ 1048576 := by have := HSZ.out; rw [← hx, ByteArray.size_extract]; omega
        rw [hx] at H4
        cases hh : trees.hasB x ⟨#[60]⟩
        · have HN : Hid (Q = some (x, j + 1)) := HQ.out.trans (quoT_good hj hx hh)
          have H5 : Hid (∀ W, frames.MaxAt W → _) := fun W h => trees.contains_H x ⟨#[60]⟩ false hxz hh W h
          clear hj hx hh
          go_wp2_with fail
          refine Calls.mono H4.out ?_
          rintro e w3 ⟨⟨rfl, hr⟩, hg⟩
          have HR3 : Hid _ := hr
          have HG3 : Hid _ := gr_trans HG2.out hg
          clear hr hg
          go_wp2_with fail
          refine Calls.mono (H5.out _ (HM.out _ HG3.out)) ?_
          rintro e w4 ⟨rfl, hb⟩
          have HR4 : Hid _ := HR3.out.below hb
          have HG4 : Hid _ := gr_trans HG3.out (gr_below hb)
          clear hb
          go_wp2
          go_ret2
          exact ⟨quo_good HN.out ⟨rfl, HR4.out⟩, HG4.out⟩
        · have HN : Hid (Q = none) := HQ.out.trans (quoT_bad hj (by rw [hx]; exact hh))
          have H5 : Hid (∀ W, frames.MaxAt W → _) := fun W h => trees.contains_H x ⟨#[60]⟩ true hxz hh W h
          clear hj hx hh
          go_wp2_with fail
          refine Calls.mono H4.out ?_
          rintro e w3 ⟨⟨rfl, hr⟩, hg⟩
          have HR3 : Hid _ := hr
          have HG3 : Hid _ := gr_trans HG2.out hg
          clear hr hg
          go_wp2_with fail
          refine Calls.mono (H5.out _ (HM.out _ HG3.out)) ?_
          rintro e w4 ⟨rfl, hb⟩
          have HR4 : Hid _ := HR3.out.below hb
          have HG4 : Hid _ := gr_trans HG3.out (gr_below hb)
          clear hb
          go_wp2
          go_ret2
          exact ⟨quo_bad HN.out ⟨rfl, HR4.out⟩, HG4.out⟩
  · have hle := isAt_le h2
    have H1 : Hid (∀ W, Rd T W b s k rest → _) := fun W h => take_H T s ⟨#[34]⟩ k b rest W hs hk (by decide) true (k + 1) h2 rfl h
    have HQ : Hid (Q = quoT s ⟨#[34]⟩ k) := hQ.symm.trans (quo_two h2)
    have H3 : Hid (∀ W, w.grownBy W (some b) → Rd T W b s (k + 1) rest → _) := fun W hg h => cur_up T s ⟨#[34]⟩ (k + 1) b rest W hs hle (by decide) (HM.out W hg) h
    clear hQ h2 hR hT hbel hle
    go_enter Tryz.func91, Tryz.ntmps91
    go_wp2_with fail
    refine Calls.mono (H1.out _ HR.out) ?_
    rintro e w2 ⟨rfl, hr, hg⟩
    have HR2 : Hid _ := hr
    have HG2 : Hid _ := hg
    clear hr hg
    cases hj : toI s ⟨#[34]⟩ (k + 1) with
    | none =>
      have HN : Hid (Q = none) := HQ.out.trans (quoT_none hj)
      have H4 : Hid _ := up_ofn hj (H3.out _ HG2.out HR2.out)
      clear hj
      go_wp2_with fail
      refine Calls.mono H4.out ?_
      rintro e w3 ⟨⟨rfl, hr⟩, hg⟩
      have HR3 : Hid _ := hr
      have HG3 : Hid _ := gr_trans HG2.out hg
      clear hr hg
      go_wp2
      go_ret2
      exact ⟨quo_bad HN.out ⟨rfl, HR3.out⟩, HG3.out⟩
    | some j =>
      have H4 : Hid _ := up_of hj (H3.out _ HG2.out HR2.out)
      obtain ⟨x, hx⟩ : ∃ x, s.extract (k + 1) j = x := ⟨_, rfl⟩
      have hxz : x.size ≤ 1048576 := by have := HSZ.out; rw [← hx, ByteArray.size_extract]; omega
      rw [hx] at H4
      cases hh : trees.hasB x ⟨#[60]⟩
      · have HN : Hid (Q = some (x, j + 1)) := HQ.out.trans (quoT_good hj hx hh)
        have H5 : Hid (∀ W, frames.MaxAt W → _) := fun W h => trees.contains_H x ⟨#[60]⟩ false hxz hh W h
        clear hj hx hh
        go_wp2_with fail
        refine Calls.mono H4.out ?_
        rintro e w3 ⟨⟨rfl, hr⟩, hg⟩
        have HR3 : Hid _ := hr
        have HG3 : Hid _ := gr_trans HG2.out hg
        clear hr hg
        go_wp2_with fail
        refine Calls.mono (H5.out _ (HM.out _ HG3.out)) ?_
        rintro e w4 ⟨rfl, hb⟩
        have HR4 : Hid _ := HR3.out.below hb
        have HG4 : Hid _ := gr_trans HG3.out (gr_below hb)
        clear hb
        go_wp2
        go_ret2
        exact ⟨quo_good HN.out ⟨rfl, HR4.out⟩, HG4.out⟩
      · have HN : Hid (Q = none) := HQ.out.trans (quoT_bad hj (by rw [hx]; exact hh))
        have H5 : Hid (∀ W, frames.MaxAt W → _) := fun W h => trees.contains_H x ⟨#[60]⟩ true hxz hh W h
        clear hj hx hh
        go_wp2_with fail
        refine Calls.mono H4.out ?_
        rintro e w3 ⟨⟨rfl, hr⟩, hg⟩
        have HR3 : Hid _ := hr
        have HG3 : Hid _ := gr_trans HG2.out hg
        clear hr hg
        go_wp2_with fail
        refine Calls.mono (H5.out _ (HM.out _ HG3.out)) ?_
        rintro e w4 ⟨rfl, hb⟩
        have HR4 : Hid _ := HR3.out.below hb
        have HG4 : Hid _ := gr_trans HG3.out (gr_below hb)
        clear hb
        go_wp2
        go_ret2
        exact ⟨quo_bad HN.out ⟨rfl, HR4.out⟩, HG4.out⟩
end Go.Proofs.YtehdpkigfjjbaaaGreatDoor.cuts
