/-
  Rows of nodes as they are (no copies): what lies in a slice, its parts, and append of such to a row of the call's own.
-/
import Derived.Test.YtpejcblmglbjfaaPutP
import Derived.Test.YtpejcblmglbjfaaImplAt
import Derived.Maps.AppendAt
namespace Go.Proofs.Ytpejcblmglbjfaa.paths
open Go.ChangeShapes Go.WideShapes Go.ChangeAt Go.RowKit
open trees (Tree Hdr vals noTree kid nsz nszs tsize ksize NodeIn NodesAt OwnN OwnL Rng Out TH th0 cellsN trees1 noTH)
set_option linter.unusedVariables false
/-- Nodes, each somewhere in the memory of w0. -/
def Here (w0 : World) (B : Nat) (Q : List TH) : Prop := ∀ i, i < Q.length → NodeIn w0 B (th0 Q i).1 (th0 Q i).2
/-- A slice of just these nodes. -/
structure NSrc (w : World) (B : Nat) (a : Option Addr) (R : List TH) : Prop where
  row : 0 < R.length → ∃ b off, a = some ⟨b, off, none⟩ ∧ b < w.heap.size ∧ ∀ i, i < R.length → ∀ j, j < 8 → w.cell? ⟨b, off + i * 8 + j, none⟩ = (vals (th0 R i).1 (th0 R i).2)[j]?
  here : Here w B R
theorem th_left {P R : List TH} {i : Nat} (h : i < P.length) : th0 (P ++ R) i = th0 P i := by unfold th0; rw [List.getD_eq_getElem?_getD, List.getD_eq_getElem?_getD, List.getElem?_append_left h]
theorem th_right {P R : List TH} {i : Nat} (h : P.length ≤ i) : th0 (P ++ R) i = th0 R (i - P.length) := by unfold th0; rw [List.getD_eq_getElem?_getD, List.getD_eq_getElem?_getD, List.getElem?_append_right h]
theorem th_take {P : List TH} {n i : Nat} (h : i < n) : th0 (P.take n) i = th0 P i := by unfold th0; rw [List.getD_eq_getElem?_getD, List.getD_eq_getElem?_getD, List.getElem?_take, if_pos h]
theorem th_drop (P : List TH) (n i : Nat) : th0 (P.drop n) i = th0 P (n + i) := by unfold th0; rw [List.getD_eq_getElem?_getD, List.getD_eq_getElem?_getD, List.getElem?_drop]
theorem kid_th {P : List TH} {i : Nat} (h : i < P.length) : kid (trees1 P) i = (th0 P i).1 := by
  unfold kid th0 trees1
  rw [List.getD_eq_getElem?_getD, List.getD_eq_getElem?_getD, List.getElem?_map, List.getElem?_eq_getElem h]
  rfl
theorem Here.app {w : World} {B : Nat} {P R : List TH} (h : Here w B P) (k : Here w B R) : Here w B (P ++ R) := fun i hi => by
  rw [List.length_append] at hi
  by_cases e : i < P.length
  · rw [th_left e]; exact h i e
  · rw [th_right (by omega)]; exact k _ (by omega)
theorem Here.below {w w' : World} {B : Nat} {P : List TH} (h : Here w B P) (hb : Below w.heap.size w w') : Here w' B P := fun i hi => (h i hi).below hb
theorem trees1_take (P : List TH) (n : Nat) : trees1 (P.take n) = (trees1 P).take n := by unfold trees1; rw [List.map_take]
theorem trees1_drop (P : List TH) (n : Nat) : trees1 (P.drop n) = (trees1 P).drop n := by unfold trees1; rw [List.map_drop]
/-- The nodes of a slice, with where their lists lie. -/
theorem src_of {w : World} {B : Nat} {a : Option Addr} {L : List Tree} (h : NodesAt w B a L) : ∃ R, trees1 R = L ∧ NSrc w B a R := by
  by_cases h0 : 0 < L.length
  · obtain ⟨b, off, ha, hlt, hc⟩ := h.row h0
    have hc' : ∀ i, ∃ hd, i < L.length → NodeIn w B (kid L i) hd ∧ ∀ j, j < 8 → w.cell? ⟨b, off + i * 8 + j, none⟩ = (vals (kid L i) hd)[j]? := fun i => by
      by_cases hi : i < L.length
      · obtain ⟨hd, hn, c0, c1, c2, c3, c4, c5, c6, c7⟩ := hc i hi
        refine ⟨hd, fun _ => ⟨hn, fun j hj => ?_⟩⟩
        rcases (show j = 0 ∨ j = 1 ∨ j = 2 ∨ j = 3 ∨ j = 4 ∨ j = 5 ∨ j = 6 ∨ j = 7 by omega) with rfl | rfl | rfl | rfl | rfl | rfl | rfl | rfl
        · exact c0
        · exact c1
        · exact c2
        · exact c3
        · exact c4
        · exact c5
        · exact c6
        · exact c7
      · exact ⟨noHdr, fun h => absurd h hi⟩
    let hd : Nat → Hdr := fun i => (hc' i).choose
    have hhd : ∀ i, i < L.length → NodeIn w B (kid L i) (hd i) ∧ ∀ j, j < 8 → w.cell? ⟨b, off + i * 8 + j, none⟩ = (vals (kid L i) (hd i))[j]? := fun i hi => (hc' i).choose_spec hi
    have hlen : ((List.range L.length).map fun i => (kid L i, hd i)).length = L.length := by simp
    have hat : ∀ i, i < L.length → th0 ((List.range L.length).map fun i => (kid L i, hd i)) i = (kid L i, hd i) := fun i hi => by
      unfold th0
      simp [List.getD, hi]
    refine ⟨(List.range L.length).map fun i => (kid L i, hd i), ?_, ⟨fun _ => ⟨b, off, ha, hlt, fun i hi j hj => ?_⟩, fun i hi => ?_⟩⟩
    · unfold trees1
      rw [List.map_map]
      apply List.ext_getElem?
      intro i
      by_cases hi : i < L.length
      · rw [List.getElem?_map, List.getElem?_range hi, List.getElem?_eq_getElem hi]
        show some (kid L i) = some L[i]
        unfold kid
        rw [List.getD_eq_getElem?_getD, List.getElem?_eq_getElem hi]
        rfl
      · rw [List.getElem?_eq_none (by simpa using hi), List.getElem?_eq_none (by omega)]
    · rw [hlen] at hi
      rw [hat i hi]
      exact (hhd i hi).2 j hj
    · rw [hlen] at hi
      rw [hat i hi]
      exact (hhd i hi).1
  · have e : L = [] := List.length_eq_zero_iff.1 (by omega)
    subst e
    exact ⟨[], rfl, ⟨fun h => absurd h (by simp), fun i hi => absurd hi (by simp)⟩⟩
theorem NSrc.at {w : World} {B : Nat} {a : Option Addr} {R : List TH} (h : NSrc w B a R) (hl : R.length ≤ maxLen) (hg : ∀ ad, a = some ad → B ≤ ad.block) : NodesAt w B a (trees1 R) := by
  have hlen : (trees1 R).length = R.length := by unfold trees1; rw [List.length_map]
  refine ⟨fun h0 => ?_, by rw [hlen]; exact hl, hg⟩
  rw [hlen] at h0
  obtain ⟨b, off, ha, hlt, hc⟩ := h.row h0
  refine ⟨b, off, ha, hlt, fun i hi => ?_⟩
  rw [hlen] at hi
  rw [kid_th hi]
  exact ⟨(th0 R i).2, h.here i hi, hc i hi 0 (by omega), hc i hi 1 (by omega), hc i hi 2 (by omega), hc i hi 3 (by omega), hc i hi 4 (by omega), hc i hi 5 (by omega), hc i hi 6 (by omega), hc i hi 7 (by omega)⟩
theorem NSrc.below {w w' : World} {B : Nat} {a : Option Addr} {R : List TH} (h : NSrc w B a R) (hb : Below w.heap.size w w') : NSrc w' B a R :=
  ⟨fun h0 => by
    obtain ⟨b, off, ha, hlt, hc⟩ := h.row h0
    exact ⟨b, off, ha, Nat.lt_of_lt_of_le hlt hb.size, fun i hi j hj => (hb.cell (p := ⟨b, off + i * 8 + j, none⟩) hlt).trans (hc i hi j hj)⟩, h.here.below hb⟩
theorem NSrc.take {w : World} {B : Nat} {a : Option Addr} {R : List TH} (h : NSrc w B a R) (n : Nat) : NSrc w B a (R.take n) := by
  refine ⟨fun h0 => ?_, fun i hi => ?_⟩
  · have hl : (R.take n).length = min n R.length := List.length_take
    obtain ⟨b, off, ha, hlt, hc⟩ := h.row (by omega)
    refine ⟨b, off, ha, hlt, fun i hi j hj => ?_⟩
    rw [hl] at hi
    rw [th_take (by omega)]
    exact hc i (by omega) j hj
  · have hl : (R.take n).length = min n R.length := List.length_take
    rw [hl] at hi
    rw [th_take (by omega)]
    exact h.here i (by omega)
theorem NSrc.drop {w : World} {B : Nat} {b off : Nat} {R : List TH} (h : NSrc w B (some ⟨b, off, none⟩) R) (n : Nat) : NSrc w B (some ⟨b, off + n * 8, none⟩) (R.drop n) := by
  have hl : (R.drop n).length = R.length - n := List.length_drop
  refine ⟨fun h0 => ?_, fun i hi => ?_⟩
  · obtain ⟨b', off', ha, hlt, hc⟩ := h.row (by omega)
    cases ha
    refine ⟨b, off + n * 8, rfl, hlt, fun i hi j hj => ?_⟩
    rw [th_drop, show off + n * 8 + i * 8 + j = off + (n + i) * 8 + j by omega]
    exact hc (n + i) (by omega) j hj
  · rw [th_drop]
    exact h.here (n + i) (by omega)
theorem NSrc.none {w : World} {B : Nat} (a : Option Addr) : NSrc w B a [] := ⟨fun h => absurd h (by simp), fun i hi => absurd hi (by simp)⟩
/-- The rest of a slice, from number g on. -/
theorem src_tail {w : World} {B g kc : Nat} {ka : Option Addr} {K : List TH} (h : NSrc w B ka K) (hr : K.length ≤ kc) (hg : g ≤ K.length) : NSrc w B (if kc = g then ka else Option.map (fun x => x.add (g * 8)) ka) (K.drop g) := by
  by_cases e : kc = g
  · have e2 : K.drop g = [] := List.drop_eq_nil_of_le (by omega)
    rw [e2]
    exact NSrc.none _
  · rw [if_neg e]
    by_cases h0 : 0 < K.length
    · obtain ⟨b, off, ha, _⟩ := h.row h0
      subst ha
      show NSrc w B (some ((⟨b, off, Option.none⟩ : Addr).add (g * 8))) (K.drop g)
      rw [Addr.add_lit]
      exact h.drop g
    · have e2 : K.drop g = [] := List.drop_eq_nil_of_le (by omega)
      rw [e2]
      exact NSrc.none _
/-- A row of the call's own (made behind w0), of nodes that lie in w0's memory. -/
structure NRow (w0 : World) (B : Nat) (w : World) (v : Value) (Q : List TH) : Prop where
  own : w.ownsRow w0.heap.size 28 8 v Q.length (cellsN Q)
  here : Here w0 B Q
  not : v ≠ .slice Option.none 0 0
  bel : Below w0.heap.size w0 w
theorem own_kept {w w' : World} {B : Nat} {e : TypeId} {size n : Nat} {v : Value} {xs : List Value} (h : w.ownsRow B e size v n xs) (hb : Below w.heap.size w w') : w'.ownsRow B e size v n xs :=
  World.ownsRow.kept h (row := Option.none) ⟨hb.os, hb.tape, hb.output, hb.size, fun k hk _ => hb.block k hk⟩ (by cases v.ownBlock <;> simp)
theorem NRow.below {w0 w w' : World} {B : Nat} {v : Value} {Q : List TH} (h : NRow w0 B w v Q) (hb : Below w.heap.size w w') : NRow w0 B w' v Q := ⟨own_kept h.own hb, h.here, h.not, h.bel.trans (hb.mono h.bel.size)⟩
theorem NRow.new {w0 w : World} {B : Nat} (hb : Below w0.heap.size w0 w) : NRow w0 B (w.alloc (.cells #[] 28)) (.slice (some ⟨w.heap.size, 0, Option.none⟩) 0 0) [] :=
  ⟨World.ownsRow_made w #[] 0 hb.size (by decide) (by decide), fun i hi => absurd hi (by simp), by simp, hb.alloc hb.size _⟩
/-- The row as a slice of nodes. -/
theorem NRow.src {w0 w : World} {B : Nat} {v : Value} {Q : List TH} (h : NRow w0 B w v Q) : ∃ g c, v = .slice (some ⟨g, 0, Option.none⟩) Q.length c ∧ w0.heap.size ≤ g ∧ Q.length ≤ c ∧ c ≤ maxLen ∧ NSrc w B (some ⟨g, 0, Option.none⟩) Q := by
  rcases h.own.2 with ⟨e, h0⟩ | ⟨g, cap, cur, rfl, h0, h1, h2, h3, h4, h5⟩
  · exact absurd e h.not
  · refine ⟨g, cap, rfl, h0, h2, h3, ⟨fun _ => ⟨g, 0, rfl, pairs.lt_heap h1, fun i hi j hj => ?_⟩, h.here.below h.bel⟩⟩
    have e := World.ownsRow.cellAt h.own (i * 8 + j) (by omega)
    rw [trees.cellsN_at Q i j hi hj] at e
    rw [Nat.zero_add]
    exact e
theorem src_cells {w : World} {B : Nat} {ad : Addr} {R : List TH} (h : NSrc w B (some ad) R) : ∀ j u, (cellsN R)[j]? = some u → w.cell? (ad.add j) = some u := by
  intro j u hj
  have hjl : j < R.length * 8 := by
    have := (List.getElem?_eq_some_iff.1 hj).1
    rwa [trees.cellsN_len] at this
  obtain ⟨b, off, ha, _, hc⟩ := h.row (by omega)
  cases ha
  exact trees.cellsN_here hc j u hj
/-- append of nodes as they are to such a row: what comes is such a row. -/
theorem row_run {w0 w : World} {B : Nat} {v : Value} {Q : List TH} (ty : TypeId) (h : NRow w0 B w v Q) {a : Option Addr} {R : List TH} (c : Nat) (hR : NSrc w B a R) (hH : Here w0 B R) (hn : Q.length + R.length ≤ 4000000) :
    ∃ v' w', (Builtin.append_ #[26, 26] ty #[v, .slice a R.length c]).run Try.prog w = .ok v' w' ∧ NRow w0 B w' v' (Q ++ R) := by
  obtain ⟨i0, hi, hz0, hz1, hz2⟩ := info_parts trees.infoN
  cases a with
  | none =>
    have e : R = [] := by
      cases R with
      | nil => rfl
      | cons x R => obtain ⟨b, off, ha, _⟩ := hR.row (by simp); cases ha
    subst e
    have hu := Try.underlying26
    obtain ⟨g, cap, rfl, _⟩ := h.src
    refine ⟨_, w, ?_, by rw [List.append_nil]; exact h⟩
    have hcap : Q.length ≤ cap := by
      rcases h.own.2 with ⟨e, _⟩ | ⟨g', cap', cur, e, _, _, h2, _⟩
      · cases e
      · cases e; exact h2
    simp [Builtin.append_, run_underlying hu, sizeOf, typeInfo, hi, Builtin.lenOf, Builtin.firstCells, storeCells, hcap]
  | some ad =>
    obtain ⟨v', w', hrun, ho, hgr, hnil, hg⟩ := run_append_own_at (P := Try.prog) (w := w) w0.heap.size 26 ty 28 i0 (.agg #[.int .i64 0, .string ⟨#[]⟩, .string ⟨#[]⟩, .string ⟨#[]⟩, .slice Option.none 0 0, .slice Option.none 0 0, .slice Option.none 0 0, .string ⟨#[]⟩]) 8 144 Try.underlying26 hi hz0 hz1 hz2 rfl (by decide) v Q.length (cellsN Q) h.own ad R.length c (cellsN R) (trees.cellsN_len R) (src_cells hR) (trees.cellsN_one R) (by unfold maxLen; omega) (by omega) h.bel.size
    refine ⟨v', w', hrun, ⟨by rw [List.length_append, trees.cellsN_append]; exact ho, h.here.app hH, fun e => h.not (hnil.1 e).1, h.bel.trans ⟨hgr.os, hgr.tape, hgr.output, hgr.size, fun k hk => hgr.block k (Nat.lt_of_lt_of_le hk h.bel.size) (fun e => ?_)⟩⟩⟩
    have := (World.ownsRow.lt h.own k e.symm).1
    omega
theorem add_row {ops : Array Oper} {rest : List Oper} {o : Oper} {a : Act} {w0 w : World} {Qp : Exit → Act → World → Prop} {B : Nat} {v : Value} {Q : List TH} (h : NRow w0 B w v Q) {ad : Option Addr} {R : List TH} (c n : Nat) (hR : NSrc w B ad R) (hH : Here w0 B R) (hn : Q.length + R.length ≤ 4000000) (hgd : o.guard = Option.none) (s x : Operand)
    (ho : o.op = .call { callee := .builtin .append, args := #[s, x], argTypes := #[26, 26] }) (hs : a.eval s = v) (hx : a.eval x = .slice ad n c) (hnR : n = R.length)
    (hK : ∀ v' w', NRow w0 B w' v' (Q ++ R) → wpList Try.prog ops Qp rest (a.put o.dst v') w') : wpList Try.prog ops Qp (o :: rest) a w := by
  subst hnR
  obtain ⟨v', w', hr, hk⟩ := row_run o.type h c hR hH hn
  exact pairs.wpList_run hgd s x _ ho _ _ _ hs hx hr (hK v' w' hk)
end Go.Proofs.Ytpejcblmglbjfaa.paths
