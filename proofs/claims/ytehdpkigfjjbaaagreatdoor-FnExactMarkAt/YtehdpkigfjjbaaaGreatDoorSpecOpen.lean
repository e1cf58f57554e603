/-
  What the specification's l6Open answers.
-/
import Derived.Test.YtehdpkigfjjbaaaGreatDoorMarkP
import Derived.Test.YtehdpkigfjjbaaaGreatDoorPairOwnRaw
import Derived.Test.YtehdpkigfjjbaaaGreatDoorOwnB
namespace Go.Proofs.YtehdpkigfjjbaaaGreatDoor.cuts
open Go.ChangeShapes Go.WideShapes Go.ChangeAt Go.RowKit
open names (splitT nameE)
open marks (blanksE)
open pairs (Pair at0 PairsAt)
open trees (Rng Out Bset)
set_option linter.unusedVariables false
/-! ### How far it goes -/
theorem ends_ge (s : ByteArray) : ∀ f k, k ≤ names.ends s f k
  | 0, k => Nat.le_refl _
  | f + 1, k => by
    by_cases hg : k < s.size ∧ Utf8.decode s k ≠ (65533, 1) ∧ names.nameB ((Utf8.decode s k).1 : Int) = true
    · rw [names.ends, if_pos hg]
      exact Nat.le_trans (Nat.le_add_right _ _) (ends_ge s f _)
    · rw [names.ends_stop s (f + 1) k hg]; exact Nat.le_refl _
theorem nameE_ge (s : ByteArray) (k : Nat) : k ≤ nameE s k := ends_ge s _ k
theorem nameE_le (s : ByteArray) (k : Nat) (h : k ≤ s.size) : nameE s k ≤ s.size := ends_le s _ k h
theorem blanksE_ge (s : ByteArray) (k : Nat) : k ≤ blanksE s k := marks.blE_ge s _ k
theorem blanksE_le (s : ByteArray) (k : Nat) (h : k ≤ s.size) : blanksE s k ≤ s.size := marks.blE_le s _ k h
theorem toF_ge {s t : ByteArray} {j : Nat} : ∀ {f k}, toF s t f k = some j → k ≤ j ∧ j + t.size ≤ s.size
  | 0, k, h => by cases h
  | f + 1, k, h => by
    rw [toF] at h
    by_cases hk : k + t.size ≤ s.size
    · rw [if_pos hk] at h
      by_cases hb : isAt s t k = true
      · rw [if_pos hb] at h
        cases h
        exact ⟨Nat.le_refl _, hk⟩
      · rw [if_neg hb] at h
        have := toF_ge h
        omega
    · rw [if_neg hk] at h; cases h
theorem ex_size {n : Nat} {r : ByteArray × Bool} {s : ByteArray} {L : List Pair} (h : refs.expandR s L = r) (hr : r.2 = true) : r.1.size ≤ 600 ∧ refs.textB r.1 = true := by
  cases h1 : (scans.signs s && decide (s.size ≤ 1500)) with
  | false => rw [refs.exp_signs h1] at h; subst h; cases hr
  | true =>
    cases h2 : refs.entsB L with
    | false => rw [refs.exp_ents h2] at h; subst h; cases hr
    | true =>
      cases h3 : refs.expE s L with
      | none => rw [refs.exp_none h3] at h; subst h; cases hr
      | some x =>
        cases h4 : (decide (x.size ≤ 600) && scans.signs x) with
        | false => rw [refs.exp_long h3 h4] at h; subst h; cases hr
        | true =>
          rw [refs.exp_yes h1 h2 h3 h4] at h
          subst h
          refine ⟨?_, h4⟩
          rw [Bool.and_eq_true] at h4
          exact of_decide_eq_true h4.1
theorem valE_some {s : ByteArray} {k j : Nat} {L : List Pair} {x : ByteArray} (h : valE s k L = some (x, j)) (hk : k + 1 ≤ s.size) : k + 2 ≤ j ∧ j ≤ s.size ∧ x.size ≤ 600 ∧ refs.textB x = true := by
  unfold valE at h
  cases hj : toI s (s.extract k (k + 1)) (k + 1) with
  | none => rw [hj] at h; cases h
  | some i =>
    rw [hj] at h
    simp only at h
    split at h
    · rename_i hc
      cases h
      have h1 := toF_ge hj
      rw [one_size hk] at h1
      have h2 := ex_size (n := 0) rfl hc.2
      exact ⟨by omega, by omega, h2⟩
    · cases h
theorem rawE_some {s : ByteArray} {a j : Nat} {L : List Pair} {n x : ByteArray} (h : rawE s a L = some (n, x, j)) (ha : a ≤ s.size) : a + 2 ≤ j ∧ j ≤ s.size ∧ n.size ≤ s.size ∧ x.size ≤ 600 ∧ refs.textB x = true := by
  unfold rawE at h
  split at h
  · split at h
    · split at h
      · rename_i h1 h2 h3
        have hq : blanksE s (blanksE s (nameE s a) + 1) + 1 ≤ s.size := by
          rcases h3 with h3 | h3
          · exact isAt_one h3
          · exact isAt_one h3
        cases hv : valE s (blanksE s (blanksE s (nameE s a) + 1)) L with
        | none => rw [hv] at h; cases h
        | some y =>
          obtain ⟨x', j'⟩ := y
          rw [hv] at h
          simp only [Option.some.injEq, Prod.mk.injEq] at h
          obtain ⟨rfl, rfl, rfl⟩ := h
          obtain ⟨h4, h5, h6, h7⟩ := valE_some hv hq
          have := nameE_ge s a
          have := blanksE_ge s (nameE s a)
          have := blanksE_ge s (blanksE s (nameE s a) + 1)
          exact ⟨by omega, h5, by rw [ByteArray.size_extract]; omega, h6, h7⟩
      · cases h
    · cases h
  · cases h
/-- The texts of a list of pairs are small, and the second ones may stand. -/
def RFit (R : List Pair) : Prop := ∀ i, i < R.length → (at0 R i).1.size ≤ 1048576 ∧ (at0 R i).2.size ≤ 600 ∧ refs.textB (at0 R i).2 = true
theorem rfit_nil : RFit [] := fun i hi => absurd hi (Nat.not_lt_zero _)
theorem at0_left {R M : List Pair} {i : Nat} (h : i < R.length) : at0 (R ++ M) i = at0 R i := by
  unfold at0; rw [List.getD_eq_getElem?_getD, List.getElem?_append_left h, ← List.getD_eq_getElem?_getD]
theorem at0_last {R : List Pair} {x : Pair} : at0 (R ++ [x]) R.length = x := by
  unfold at0; rw [List.getD_eq_getElem?_getD, List.getElem?_append_right (Nat.le_refl _), Nat.sub_self]; rfl
theorem rfit_add {R : List Pair} {n x : ByteArray} (h : RFit R) (hn : n.size ≤ 1048576) (hx : x.size ≤ 600) (ht : refs.textB x = true) : RFit (R ++ [(n, x)]) := fun i hi => by
  rw [List.length_append] at hi
  by_cases e : i < R.length
  · rw [at0_left e]; exact h i e
  · have e' : i = R.length := by simp at hi; omega
    rw [e', at0_last]
    exact ⟨hn, hx, ht⟩
theorem RFit.texts {R : List Pair} (h : RFit R) : ∀ i, i < R.length → (at0 R i).1.size ≤ maxLen ∧ (at0 R i).2.size ≤ maxLen := fun i hi => by
  obtain ⟨h1, h2, _⟩ := h i hi
  unfold maxLen
  omega
theorem openF_fit {s : ByteArray} {L : List Pair} {R' : List Pair} {b : Bool} {j : Nat} (hs : s.size ≤ 1048576) : ∀ {f k R}, openF s L f k R = some (R', b, j) → k ≤ s.size → R.length ≤ k → RFit R → RFit R' ∧ R'.length ≤ j ∧ k < j ∧ j ≤ s.size
  | 0, k, R, h, _, _, _ => by cases h
  | f + 1, k, R, h, hk, hl, hR => by
    have hg := blanksE_ge s k
    have hle := blanksE_le s k hk
    rw [openF] at h
    split at h
    · rename_i h1
      cases h
      have h2 : blanksE s k + 2 ≤ s.size := isAt_one h1
      exact ⟨hR, by omega, by omega, by omega⟩
    · split at h
      · rename_i h1 h3
        cases h
        have h2 : blanksE s k + 1 ≤ s.size := isAt_one h3
        exact ⟨hR, by omega, by omega, by omega⟩
      · split at h
        · cases h
        · rename_i h1 h2 h3
          cases hr : rawE s (blanksE s k) L with
          | none => rw [hr] at h; cases h
          | some y =>
            obtain ⟨n, x, i⟩ := y
            rw [hr] at h
            simp only at h
            obtain ⟨h4, h5, h6, h7, h8⟩ := rawE_some hr hle
            have := openF_fit hs h h5 (by rw [List.length_append]; simp; omega) (rfit_add hR (by omega) h7 h8)
            exact ⟨this.1, this.2.1, by omega, this.2.2.2⟩
/-! ### What stands in memory -/
def mkV (m : MarkV) (ad : Option Addr) (c : Nat) : Value := .agg #[.int .i64 m.kind, .string m.name, .slice ad m.raws.length c, .bool m.empty, .string m.text]
def badM (e : Ending) : Prop := ∃ k n a l c b x, e = .returned (.tuple #[.agg #[.int .i64 k, .string n, .slice a l c, .bool b, .string x], .int .i64 (-1)])
/-- What l6Open and l6Mark answer. -/
def mkOk (r : Option (MarkV × Nat)) (w w' : World) (e : Ending) : Prop :=
  match r with
  | none => badM e
  | some (m, j) => ∃ ad c, e = .returned (.tuple #[mkV m ad c, .int .i64 (j : Int)]) ∧ trees.OwnP w' ad m.raws (Rng w w')
theorem mk_bad {r : Option (MarkV × Nat)} {w w' : World} {e : Ending} (h : r = none) (hb : badM e) : mkOk r w w' e := by subst h; exact hb
theorem mk_good {r : Option (MarkV × Nat)} {w w' : World} {e : Ending} {m : MarkV} {j : Nat} (h : r = some (m, j)) (hb : ∃ ad c, e = .returned (.tuple #[mkV m ad c, .int .i64 (j : Int)]) ∧ trees.OwnP w' ad m.raws (Rng w w')) : mkOk r w w' e := by subst h; exact hb
theorem mk_plain {r : Option (MarkV × Nat)} {w w' : World} {e : Ending} {k : Int} {n x : ByteArray} {b : Bool} {j : Nat} (h : r = some (⟨k, n, [], b, x⟩, j)) (hb : e = .returned (.tuple #[.agg #[.int .i64 k, .string n, .slice none 0 0, .bool b, .string x], .int .i64 (j : Int)])) : mkOk r w w' e := mk_good h ⟨none, 0, hb, fun h0 => absurd h0 (Nat.lt_irrefl _)⟩
/-- A row of a call's own, as one that is owned. -/
theorem own_row {w W W' : World} {B : Nat} {t : TypeId} {v : Value} {R : List Pair} {G : Bset} (h : pairs.OwnP t W B v R) (hB : w.heap.size ≤ B) (ho : Out G W W') (hG : ∀ b, G b → b < B) : ∃ ad c, v = .slice ad R.length c ∧ trees.OwnP W' ad R (Rng w W') := by
  by_cases hv : v = .slice none 0 0
  · have hl : R.length = 0 := by
      rcases h.2 with ⟨_, hn⟩ | ⟨g, cap, cur, rfl, _⟩
      · exact hn
      · cases hv
    exact ⟨none, 0, by rw [hv, hl], fun h0 => by omega⟩
  · obtain ⟨g, cap, rfl, hg, hm⟩ := h.made hv
    have hm' := trees.made_out hm ho (fun hgg => by have := hG g hgg; omega)
    exact ⟨_, cap, rfl, fun _ => ⟨g, rfl, ⟨by omega, hm'.lt⟩, hm'⟩⟩
theorem own_shape {t : TypeId} {w : World} {B : Nat} {v : Value} {R : List Pair} (h : pairs.OwnP t w B v R) : ∃ a c, v = .slice a R.length c := by
  rcases h.2 with ⟨rfl, hn⟩ | ⟨g, cap, cur, rfl, _⟩
  · exact ⟨none, 0, by rw [hn]⟩
  · exact ⟨_, _, rfl⟩
structure ORel (w wr : World) (mb : Nat) (n : ByteArray) (v : Value) (R : List Pair) : Prop where
  res : wr.heap[w.heap.size]? = some (.cells #[.int .i64 0, .string ⟨#[]⟩, .slice none 0 0, .bool false, .string ⟨#[]⟩] 26 (0, 0))
  box : wr.heap[mb]? = some (.cells #[.int .i64 1, .string n, v, .bool false, .string ⟨#[]⟩] 26 (0, 0))
  own : pairs.OwnP 70 wr (mb + 1) v R
  bel : Below w.heap.size w wr
  gt : w.heap.size < mb
  lt : mb < wr.heap.size
theorem ORel.below {w wr w2 : World} {mb : Nat} {n : ByteArray} {v : Value} {R : List Pair} (h : ORel w wr mb n v R) (hb : Below wr.heap.size wr w2) : ORel w w2 mb n v R :=
  ⟨(hb.block _ (Nat.lt_trans h.gt h.lt)).trans h.res, (hb.block _ h.lt).trans h.box, h.own.below hb, h.bel.trans (hb.mono h.bel.size), h.gt, Nat.lt_of_lt_of_le h.lt hb.size⟩
theorem own_set {t : TypeId} {w : World} {B g i : Nat} {v u : Value} {R : List Pair} (h : pairs.OwnP t w B v R) (hg : g < B) : pairs.OwnP t (w.setCell ⟨g, i, none⟩ u) B v R :=
  World.ownsRow.kept h (row := some g) (pairs.grown_set w g i u) (by
    rcases h.2 with ⟨rfl, _⟩ | ⟨g', cap, cur, rfl, h0, _⟩
    · simp [Value.ownBlock]
    · simp only [Value.ownBlock, ne_eq, Option.some.injEq]; omega)
theorem ORel.add {w wr w5 : World} {mb : Nat} {n : ByteArray} {v v' : Value} {R R' : List Pair} (h : ORel w wr mb n v R) (ho : pairs.OwnP 70 w5 (mb + 1) v' R') (hs : wr.heap.size ≤ w5.heap.size) (hk : ∀ k, k < mb + 1 → w5.heap[k]? = wr.heap[k]?) (h1 : w5.os = wr.os) (h2 : w5.tape = wr.tape) (h3 : w5.output = wr.output) :
    ORel w (w5.setCell ⟨mb, 2, none⟩ v') mb n v' R' ∧ w5.cell? ⟨mb, 2, none⟩ = some v ∧ w5.frozen? ⟨mb, 2, none⟩ = false := by
  have hgt := h.gt
  have hb : Below w.heap.size w w5 := h.bel.trans ⟨h1, h2, h3, hs, fun k hk' => hk k (by omega)⟩
  have hbox : w5.heap[mb]? = some (.cells #[.int .i64 1, .string n, v, .bool false, .string ⟨#[]⟩] 26 (0, 0)) := (hk mb (by omega)).trans h.box
  have hres : w5.heap[w.heap.size]? = _ := (hk _ (by omega)).trans h.res
  refine ⟨⟨?_, ?_, own_set ho (by omega), hb.setCell (p := ⟨mb, 2, none⟩) (by show w.heap.size ≤ mb; omega) _, hgt, ?_⟩, ?_, ?_⟩
  · rw [Below.heap_setCell w5 ⟨mb, 2, none⟩ v' _ (by show w.heap.size ≠ mb; omega)]; exact hres
  · rw [pairs.block_set v' hbox]; rfl
  · rw [trees.size_setCell]; exact Nat.lt_of_lt_of_le h.lt hs
  · simp [World.cell?, hbox]
  · simp [World.frozen?, hbox]
theorem out5 (w W : World) (u0 u1 u2 u3 u4 : Value) : Out (fun b => b = w.heap.size) W (((((W.setCell ⟨w.heap.size, 0, none⟩ u0).setCell ⟨w.heap.size, 1, none⟩ u1).setCell ⟨w.heap.size, 2, none⟩ u2).setCell ⟨w.heap.size, 3, none⟩ u3).setCell ⟨w.heap.size, 4, none⟩ u4) :=
  (((((Out.refl (fun b => b = w.heap.size) W).set (F := fun b => b = w.heap.size) rfl _ _).set (F := fun b => b = w.heap.size) rfl _ _).set (F := fun b => b = w.heap.size) rfl _ _).set (F := fun b => b = w.heap.size) rfl _ _).set (F := fun b => b = w.heap.size) rfl _ _
theorem out6 (w W : World) (mb : Nat) (u u0 u1 u2 u3 u4 : Value) : Out (fun b => b = w.heap.size ∨ b = mb) W ((((((W.setCell ⟨mb, 3, none⟩ u).setCell ⟨w.heap.size, 0, none⟩ u0).setCell ⟨w.heap.size, 1, none⟩ u1).setCell ⟨w.heap.size, 2, none⟩ u2).setCell ⟨w.heap.size, 3, none⟩ u3).setCell ⟨w.heap.size, 4, none⟩ u4) :=
  ((((((Out.refl _ W).set (.inr rfl) _ _).set (.inl rfl) _ _).set (.inl rfl) _ _).set (.inl rfl) _ _).set (.inl rfl) _ _).set (.inl rfl) _ _
theorem openE_no {s : ByteArray} {a : Nat} {L : List Pair} (h : ¬ (splitT (s.extract (a + 1) (nameE s (a + 1)))).2.2 = true) : openE s a L = none := if_neg h
theorem openE_bad {s : ByteArray} {a k : Nat} {L : List Pair} (h : (splitT (s.extract (a + 1) (nameE s (a + 1)))).2.2 = true) (hk : nameE s (a + 1) = k) (ho : openF s L (s.size + 2) k [] = none) : openE s a L = none := by
  unfold openE; rw [if_pos h, hk, ho]
theorem openE_good {s : ByteArray} {a k : Nat} {L : List Pair} {n : ByteArray} {R : List Pair} {b : Bool} {j : Nat} (h : (splitT (s.extract (a + 1) (nameE s (a + 1)))).2.2 = true) (hk : nameE s (a + 1) = k) (hn : s.extract (a + 1) k = n) (ho : openF s L (s.size + 2) k [] = some (R, b, j)) : openE s a L = some (⟨1, n, R, b, ⟨#[]⟩⟩, j) := by
  unfold openE; rw [if_pos h, hk, hn, ho]
theorem openF_two {s : ByteArray} {L : List Pair} {f k i : Nat} {R : List Pair} (hf : s.size + 2 ≤ k + f) (hk : k ≤ s.size) (hi : blanksE s k = i) (h : isAt s ⟨#[47, 62]⟩ i = true) : openF s L f k R = some (R, true, i + 2) := by
  cases f with
  | zero => omega
  | succ f => rw [openF, hi, if_pos h]
theorem openF_one {s : ByteArray} {L : List Pair} {f k i : Nat} {R : List Pair} (hf : s.size + 2 ≤ k + f) (hk : k ≤ s.size) (hi : blanksE s k = i) (h : isAt s ⟨#[47, 62]⟩ i = false) (h1 : isAt s ⟨#[62]⟩ i = true) : openF s L f k R = some (R, false, i + 1) := by
  cases f with
  | zero => omega
  | succ f => rw [openF, hi, if_neg (by rw [h]; decide), if_pos h1]
theorem openF_stuck {s : ByteArray} {L : List Pair} {f k i : Nat} {R : List Pair} (hi : blanksE s k = i) (h : isAt s ⟨#[47, 62]⟩ i = false) (h1 : isAt s ⟨#[62]⟩ i = false) (h2 : i = k) : openF s L f k R = none := by
  cases f with
  | zero => rfl
  | succ f => rw [openF, hi, if_neg (by rw [h]; decide), if_neg (by rw [h1]; decide), if_pos h2]
theorem openF_none {s : ByteArray} {L : List Pair} {f k i : Nat} {R : List Pair} (hi : blanksE s k = i) (h : isAt s ⟨#[47, 62]⟩ i = false) (h1 : isAt s ⟨#[62]⟩ i = false) (h2 : ¬ i = k) (h3 : rawE s i L = none) : openF s L f k R = none := by
  cases f with
  | zero => rfl
  | succ f => rw [openF, hi, if_neg (by rw [h]; decide), if_neg (by rw [h1]; decide), if_neg h2, h3]
theorem openF_go {s : ByteArray} {L : List Pair} {f k i j : Nat} {n x : ByteArray} {R : List Pair} (hf : s.size + 2 ≤ k + f) (hk : k ≤ s.size) (hi : blanksE s k = i) (h : isAt s ⟨#[47, 62]⟩ i = false) (h1 : isAt s ⟨#[62]⟩ i = false) (h2 : ¬ i = k) (h3 : rawE s i L = some (n, x, j)) : ∃ g, openF s L f k R = openF s L g j (R ++ [(n, x)]) ∧ s.size + 2 ≤ j + g ∧ j ≤ s.size ∧ k + 2 ≤ j := by
  have hg := blanksE_ge s k
  have hle := blanksE_le s k hk
  rw [hi] at hg hle
  have h4 := rawE_some h3 hle
  cases f with
  | zero => omega
  | succ f => exact ⟨f, by rw [openF, hi, if_neg (by rw [h]; decide), if_neg (by rw [h1]; decide), if_neg h2, h3], by omega, h4.2.1, by omega⟩
theorem raw_H (s : ByteArray) (a : Nat) (L : List Pair) (r : Option (ByteArray × ByteArray × Nat)) (hr : rawE s a L = r) (ad : Option Addr) (cap : Nat) (w : World) (hs : s.size ≤ 1048576) (ha : a ≤ s.size) (hL : PairsAt w ad L) (hv : ∀ i, i < L.length → (at0 L i).2.size ≤ 1048576) : Calls Tryz.prog 55 #[.string s, .int .i64 a, .slice ad L.length cap] w fun e w' => rawOk r e ∧ Below w.heap.size w w' := by
  have := spec_raw s a L ad cap w hs ha hL hv
  rw [hr] at this
  exact this
set_option maxRecDepth 100000 in
set_option maxHeartbeats 4000000 in
theorem spec_open (s : ByteArray) (a : Nat) (L : List Pair) (ad : Option Addr) (cap : Nat) (w : World) (hs : s.size ≤ 1048576) (ha : a + 1 ≤ s.size) (hL : PairsAt w ad L) (hv : ∀ i, i < L.length → (at0 L i).2.size ≤ 1048576) : Calls Tryz.prog 34 #[.string s, .int .i64 a, .slice ad L.length cap] w fun e w' => mkOk (openE s a L) w w' e ∧ Below w.heap.size w w' := by
  have HL : Hid (PairsAt w ad L) := hL
  have HV : Hid _ := hv
  have HSZ : Hid (s.size ≤ 1048576) := hs
  have H1 : Hid (∀ W, Calls Tryz.prog 32 #[.string s, .int .i64 ((a : Int) + 1)] W fun e w' => e = .returned (.tuple #[.string (nameR s (a + 1)).1, .int .i64 (nameR s (a + 1)).2]) ∧ Below W.heap.size W w') := fun W => spec_name s (a + 1) W hs ha
  have hkl : nameE s (a + 1) ≤ s.size := ends_le s _ _ ha
  obtain ⟨M, hM⟩ : ∃ M, openE s a L = M := ⟨_, rfl⟩
  rw [hM]
  have HE : Hid (openE s a L = M) := hM
  clear hM hL hv
  by_cases hok : (splitT (s.extract (a + 1) (nameE s (a + 1)))).2.2 = true
  · rw [nameR_yes hok] at H1
    obtain ⟨k0, hk0⟩ : ∃ k, nameE s (a + 1) = k := ⟨_, rfl⟩
    have HBAD : Hid (openF s L (s.size + 2) k0 [] = none → M = none) := fun h => HE.out.symm.trans (openE_bad hok hk0 h)
    obtain ⟨n, hn⟩ : ∃ n, s.extract (a + 1) k0 = n := ⟨_, rfl⟩
    have HGOOD : Hid (∀ R b j, openF s L (s.size + 2) k0 [] = some (R, b, j) → M = some (⟨1, n, R, b, ⟨#[]⟩⟩, j)) := fun R b j h => HE.out.symm.trans (openE_good hok hk0 hn h)
    rw [hk0, hn] at H1
    rw [hk0] at hkl
    clear hok hk0 hn HE
    go_enter Tryz.func34, Tryz.ntmps34
    go_wp2_with fail
    refine Calls.mono (H1.out _) ?_
    rintro e w1 ⟨rfl, hb⟩
    have HB1 : Hid (Below w.heap.size w w1) := box_under hb
    have HX1 : Hid _ := box_kept hb
    have hlt1 := lt_heap HX1.out
    clear hb
    go_wp2
    obtain ⟨mb, hmb⟩ : ∃ mb, w1.heap.size = mb := ⟨_, rfl⟩
    have HR0 : Hid (ORel w (w1.alloc (.cells #[.int .i64 1, .string n, .slice none 0 0, .bool false, .string ⟨#[]⟩] 26)) mb n (.slice none 0 0) []) := by
      subst hmb
      refine ⟨(Below.heap_alloc w1 _ _ (by omega)).trans HX1.out, heap_alloc_new w1 _, ?_, HB1.out.alloc HB1.out.size _, hlt1, by simp⟩
      exact ⟨rfl, .inl ⟨rfl, rfl⟩⟩
    have hne : mb ≠ w.heap.size := by omega
    have hne' : w.heap.size ≠ mb := by omega
    rw [hmb]
    obtain ⟨W1, hW1⟩ : ∃ W1, w1.alloc (.cells #[.int .i64 1, .string n, .slice none 0 0, .bool false, .string ⟨#[]⟩] 26) = W1 := ⟨_, rfl⟩
    rw [hW1] at HR0 ⊢
    clear hW1 hmb hlt1
    go_loopw [9] (fun t wr => ∃ (k f : Nat) (v : Value) (R : List Pair), k ≤ s.size ∧ t = .int .i64 k ∧ Hid (openF s L (s.size + 2) k0 [] = openF s L f k R) ∧ Hid (s.size + 2 ≤ k + f) ∧ Hid (R.length * 2 ≤ k) ∧ Hid (ORel w wr mb n v R)) (fun t _ => s.size - (intOf t).toNat)
    case atStart => exact ⟨k0, s.size + 2, _, [], hkl, rfl, rfl, by show s.size + 2 ≤ k0 + (s.size + 2); omega, by show 0 * 2 ≤ k0; omega, HR0⟩
    case round =>
      obtain ⟨k, f, v, R, hk, rfl, hO, hf, hRl, hrr⟩ := hrel
      have H2 : Hid (∀ W, _) := fun W => marks.spec_blanks_in s k W (by unfold maxLen; omega) hk
      have hil : blanksE s k ≤ s.size := marks.blE_le s _ _ hk
      obtain ⟨i, hi⟩ : ∃ i, blanksE s k = i := ⟨_, rfl⟩
      have HI : Hid (blanksE s k = i) := hi
      rw [hi] at H2 hil
      clear hi
      have H3 : Hid (∀ W, _) := fun W => spec_is s ⟨#[47, 62]⟩ i W hs (by decide) hil
      have H4 : Hid (∀ W, _) := fun W => spec_is s ⟨#[62]⟩ i W hs (by decide) hil
      cases h2 : isAt s ⟨#[47, 62]⟩ i
      · cases h1 : isAt s ⟨#[62]⟩ i
        · rw [h2] at H3
          rw [h1] at H4
          by_cases hik : i = k
          · have HN : Hid (M = none) := HBAD.out (hO.out.trans (openF_stuck HI.out h2 h1 hik))
            clear h1 h2
            subst hik
            obtain ⟨⟨o0, o1, o2, o3, o4⟩, q0, q1, q2, q3, q4⟩ := box5 hrr.out.res
            go_wp2_with (first
              | (go_at_call 33; refine Calls.mono (H2.out _) ?_; rintro e w2 ⟨rfl, hw2⟩; have hw3 := hw2.symm; clear hw2; subst hw3)
              | (go_at_call 29; (first | (refine Calls.mono (H3.out _) ?_; clear H3) | (refine Calls.mono (H4.out _) ?_; clear H4)); rintro e w2 ⟨rfl, hw2⟩; have hw3 := hw2.symm; clear hw2; subst hw3))
            refine bodyPost_ret (by simp [results, Tryz.results34, go_sem, o0, o1, o2, o3, o4]; try rfl) rfl ?_
            exact ⟨mk_bad HN.out ⟨_, _, _, _, _, _, _, rfl⟩, below5 hrr.out.bel⟩
          · have hik' : ¬ (i : Int) = k := by omega
            have HNR : Hid (rawE s i L = none → M = none) := fun h => HBAD.out (hO.out.trans (openF_none HI.out h2 h1 hik h))
            have HGR : Hid (∀ x1 x2 j, rawE s i L = some (x1, x2, j) → ∃ g, openF s L f k R = openF s L g j (R ++ [(x1, x2)]) ∧ s.size + 2 ≤ j + g ∧ j ≤ s.size ∧ k + 2 ≤ j) := fun x1 x2 j h => openF_go hf.out hk HI.out h2 h1 hik h
            clear h1 h2
            have H5 : Hid (∀ r, rawE s i L = r → _) := fun r hr => raw_H s i L r hr ad cap wr HSZ.out hil (HL.out.below (Nat.le_refl _) hrr.out.bel) HV.out
            cases hr : rawE s i L with
            | none =>
              have HN : Hid (M = none) := HNR.out hr
              have H6 : Hid _ := H5.out none hr
              clear hr HNR HGR H5
              go_wp2_with (first
                | (go_at_call 33; refine Calls.mono (H2.out _) ?_; rintro e w2 ⟨rfl, hw2⟩; have hw3 := hw2.symm; clear hw2; subst hw3)
                | (go_at_call 29; (first | (refine Calls.mono (H3.out _) ?_; clear H3) | (refine Calls.mono (H4.out _) ?_; clear H4)); rintro e w2 ⟨rfl, hw2⟩; have hw3 := hw2.symm; clear hw2; subst hw3)
                | fail)
              refine Calls.mono H6.out ?_
              rintro e w3 ⟨he, hb⟩
              have he' : e = .returned (.tuple #[.agg #[.string ⟨#[]⟩, .string ⟨#[]⟩], .int .i64 (-1)]) := he
              subst he'
              have HR3 : Hid (∀ o, ORel w (w3.alloc o) mb n v R) := fun o => hrr.out.below (hb.alloc hb.size o)
              have hX : ∀ o, _ := fun o => box5 (HR3.out o).res
              obtain ⟨⟨o0, o1, o2, o3, o4⟩, q0, q1, q2, q3, q4⟩ := hX (.cells #[.string ⟨#[]⟩, .string ⟨#[]⟩] 70)
              clear hb hX he
              go_wp2
              refine bodyPost_ret (by simp [results, Tryz.results34, go_sem, o0, o1, o2, o3, o4]; try rfl) rfl ?_
              exact ⟨mk_bad HN.out ⟨_, _, _, _, _, _, _, rfl⟩, below5 (HR3.out _).bel⟩
            | some y =>
              obtain ⟨x1, x2, j⟩ := y
              obtain ⟨g, hg1, hg2, hjl, hkj⟩ := HGR.out x1 x2 j hr
              have HG1 : Hid _ := hg1
              have HG2 : Hid _ := hg2
              have H6 : Hid _ := H5.out _ hr
              clear hr HNR HGR H5 hg1 hg2
              have hRl1 : R.length + 1 ≤ 1000000 := by have := hRl.out; omega
              have HR4L : Hid ((R ++ [(x1, x2)]).length * 2 ≤ j) := by have := hRl.out; show _ ≤ _; rw [List.length_append]; simp; omega
              go_wp2_with (first
                | (go_at_call 33; refine Calls.mono (H2.out _) ?_; rintro e w2 ⟨rfl, hw2⟩; have hw3 := hw2.symm; clear hw2; subst hw3)
                | (go_at_call 29; (first | (refine Calls.mono (H3.out _) ?_; clear H3) | (refine Calls.mono (H4.out _) ?_; clear H4)); rintro e w2 ⟨rfl, hw2⟩; have hw3 := hw2.symm; clear hw2; subst hw3)
                | fail)
              refine Calls.mono H6.out ?_
              rintro e w3 ⟨he, hb⟩
              have he' : e = .returned (.tuple #[.agg #[.string x1, .string x2], .int .i64 (j : Int)]) := he
              subst he'
              have HR3 : Hid (∀ o, ORel w (w3.alloc o) mb n v R) := fun o => hrr.out.below (hb.alloc hb.size o)
              have hv2 : ∀ o, (w3.alloc o).cell? ⟨mb, 2, none⟩ = some v := fun o => (box5 (HR3.out o).box).1.2.2.1
              have HLT : Hid (∀ o, mb + 1 ≤ (w3.alloc o).heap.size) := fun o => (HR3.out o).lt
              clear hb he
              go_wp2_with (at_builtin; refine pairs.add_Raw (mb + 1) _ R [(x1, x2)] _ 1 (HR3.out _).own hRl1 (HLT.out _) rfl (by rfl) (by rfl) _ _ (by rfl) (by rfl) (by show Value.slice (some ⟨w3.heap.size + 1, 0, none⟩) 1 1 = _; rw [World.size_alloc]) ?_; rintro v' w5 ho5 hs5 hk5 h51 h52 h53; obtain ⟨av, cv, rfl⟩ := own_shape ho5; obtain ⟨hr5, c5, f5⟩ := (HR3.out _).add ho5 hs5 hk5 h51 h52 h53; rw [List.length_append] at hr5; have HR5 : Hid (ORel w (w5.setCell ⟨mb, 2, none⟩ (.slice av (R.length + 1) cv)) mb n (.slice av (R.length + 1) cv) (R ++ [(x1, x2)])) := hr5; clear ho5 hs5 hk5 h51 h52 h53 hr5 hv2)
              go_roundw
              case rel => exact ⟨j, g, _, _, hjl, rfl, hO.out.trans HG1.out, HG2.out, HR4L.out, HR5.out⟩
              case measure => simp [intOf]; omega
        · have HG : Hid (M = some (⟨1, n, R, false, ⟨#[]⟩⟩, i + 1)) := HGOOD.out R false (i + 1) (hO.out.trans (openF_one hf.out hk HI.out h2 h1))
          rw [h2] at H3
          rw [h1] at H4
          clear h1 h2
          obtain ⟨⟨o0, o1, o2, o3, o4⟩, q0, q1, q2, q3, q4⟩ := box5 hrr.out.res
          obtain ⟨⟨m0, m1, m2, m3, m4⟩, p0, p1, p2, p3, p4⟩ := box5 hrr.out.box
          obtain ⟨ar, cr, hvr, hor⟩ := own_row (w := w) hrr.out.own (by have := hrr.out.gt; omega) (out5 w wr (.int .i64 1) (.string n) v (.bool false) (.string ⟨#[]⟩)) (fun b hb => by rw [hb]; have := hrr.out.gt; omega)
          have HOR : Hid _ := hor
          clear hor
          subst hvr
          go_wp2_with (first
            | (go_at_call 33; refine Calls.mono (H2.out _) ?_; rintro e w2 ⟨rfl, hw2⟩; have hw3 := hw2.symm; clear hw2; subst hw3)
            | (go_at_call 29; (first | (refine Calls.mono (H3.out _) ?_; clear H3) | (refine Calls.mono (H4.out _) ?_; clear H4)); rintro e w2 ⟨rfl, hw2⟩; have hw3 := hw2.symm; clear hw2; subst hw3))
          refine bodyPost_ret (by simp [results, Tryz.results34, go_sem, o0, o1, o2, o3, o4]; try rfl) rfl ?_
          exact ⟨mk_good HG.out ⟨ar, cr, rfl, HOR.out⟩, below5 hrr.out.bel⟩
      · have HG : Hid (M = some (⟨1, n, R, true, ⟨#[]⟩⟩, i + 2)) := HGOOD.out R true (i + 2) (hO.out.trans (openF_two hf.out hk HI.out h2))
        rw [h2] at H3
        clear h2
        obtain ⟨⟨o0, o1, o2, o3, o4⟩, q0, q1, q2, q3, q4⟩ := box5 hrr.out.res
        obtain ⟨⟨m0, m1, m2, m3, m4⟩, p0, p1, p2, p3, p4⟩ := box5 hrr.out.box
        obtain ⟨ar, cr, hvr, hor⟩ := own_row (w := w) hrr.out.own (by have := hrr.out.gt; omega) (out6 w wr mb (.bool true) (.int .i64 1) (.string n) v (.bool true) (.string ⟨#[]⟩)) (fun b hb => by have := hrr.out.gt; rcases hb with hb | hb <;> omega)
        have HOR : Hid _ := hor
        clear hor
        subst hvr
        have hgt := hrr.out.gt
        go_wp2_with (first
          | (go_at_call 33; refine Calls.mono (H2.out _) ?_; rintro e w2 ⟨rfl, hw2⟩; have hw3 := hw2.symm; clear hw2; subst hw3)
          | (go_at_call 29; refine Calls.mono (H3.out _) ?_; rintro e w2 ⟨rfl, hw2⟩; have hw3 := hw2.symm; clear hw2; subst hw3))
        refine bodyPost_ret (by simp [results, Tryz.results34, go_sem, o0, o1, o2, o3, o4]; try rfl) rfl ?_
        exact ⟨mk_good HG.out ⟨ar, cr, rfl, HOR.out⟩, below5 (hrr.out.bel.setCell (p := ⟨mb, 3, none⟩) (Nat.le_of_lt hgt) _)⟩
  · rw [nameR_no hok] at H1
    have HN : Hid (M = none) := HE.out.symm.trans (openE_no hok)
    clear hok
    go_enter Tryz.func34, Tryz.ntmps34
    go_wp2_with fail
    refine Calls.mono (H1.out _) ?_
    rintro e w1 ⟨rfl, hb⟩
    have HB1 : Hid (Below w.heap.size w w1) := box_under hb
    obtain ⟨⟨o0, o1, o2, o3, o4⟩, q0, q1, q2, q3, q4⟩ := box5 (box_kept hb)
    clear hb
    go_wp2
    refine bodyPost_ret (by simp [results, Tryz.results34, go_sem, o0, o1, o2, o3, o4]; try rfl) rfl ?_
    exact ⟨mk_bad HN.out ⟨_, _, _, _, _, _, _, rfl⟩, below5 HB1.out⟩
end Go.Proofs.YtehdpkigfjjbaaaGreatDoor.cuts
