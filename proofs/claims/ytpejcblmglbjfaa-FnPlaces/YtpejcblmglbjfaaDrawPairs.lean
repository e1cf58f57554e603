/-
  Draws that make rows of pairs: what a walk through them keeps.
-/
import Derived.Test.YtpejcblmglbjfaaDraw2
import Derived.Test.YtpejcblmglbjfaaPairs
import Derived.Laws.OwnMore
namespace Go.Proofs.Ytpejcblmglbjfaa.draws
open Go.ChangeShapes Go.WideShapes Go.ChangeAt Go.RowKit
open pairs (Pair at0 PairsAt)
set_option linter.unusedVariables false
theorem grown_but {cb : Nat} {w w' : World} (h : ButFor cb w w') : w.grownBy w' (some cb) := ⟨h.os, h.tape, h.output, h.size, fun k hk hne => h.block k hk (fun e => hne (by rw [e]))⟩
theorem own_but {t : TypeId} {w w' : World} {B cb : Nat} {v : Value} {L : List Pair} (h : pairs.OwnP t w B v L) (hcb : cb < B) (hb : ButFor cb w w') : pairs.OwnP t w' B v L :=
  World.ownsRow.kept h (grown_but hb) (by
    cases e : v.ownBlock with
    | none => exact .inl rfl
    | some g =>
      right
      intro e2
      have := (World.ownsRow.lt h g e).1
      cases e2
      omega)
theorem CurAt.keeps {w0 w w' : World} {cb len cap : Nat} {a : Option Addr} (h0 : CurAt w0 cb a len cap) (hc : CurAt w cb a len cap) (hs : w.heap.size ≤ w'.heap.size) (hk : ∀ k, k < w0.heap.size → w'.heap[k]? = w.heap[k]?) : CurAt w' cb a len cap := by
  have e : ∀ o, w'.cell? ⟨cb, o, none⟩ = w.cell? ⟨cb, o, none⟩ := fun o => World.cell?_of_block (w := w) (hk cb h0.here)
  have f : ∀ o, w'.frozen? ⟨cb, o, none⟩ = w.frozen? ⟨cb, o, none⟩ := fun o => World.frozen?_of_block (w := w) (hk cb h0.here)
  refine ⟨Nat.lt_of_lt_of_le hc.here hs, by rw [e]; exact hc.c0, ?_, ?_, by rw [f]; exact hc.f1, by rw [f]; exact hc.f2, hc.row.stays hs (fun hl b off ha _ => hk b ?_), hc.apart⟩
  · obtain ⟨i, hi, c⟩ := hc.c1; exact ⟨i, hi, by rw [e]; exact c⟩
  · obtain ⟨h, c⟩ := hc.c2; exact ⟨h, by rw [e]; exact c⟩
  · obtain ⟨b', off', ha', hb', _⟩ := h0.row.row hl
    rw [ha] at ha'
    cases ha'
    exact hb'
theorem ButFor.keeps {cb : Nat} {w0 w w' : World} (h : ButFor cb w0 w) (hs : w.heap.size ≤ w'.heap.size) (hk : ∀ k, k < w0.heap.size → w'.heap[k]? = w.heap[k]?) (h1 : w'.os = w.os) (h2 : w'.tape = w.tape) (h3 : w'.output = w.output) : ButFor cb w0 w' :=
  ⟨h1.trans h.os, h2.trans h.tape, h3.trans h.output, Nat.le_trans h.size hs, fun k hlt hne => (hk k hlt).trans (h.block k hlt hne)⟩
def Fine (L : List Pair) : Prop := ∀ i, i < L.length → (at0 L i).1.size ≤ 700 ∧ (at0 L i).2.size ≤ 700
theorem Fine.add {L M : List Pair} (h : Fine L) (hM : Fine M) : Fine (L ++ M) := fun i hi => by
  unfold at0
  rw [List.length_append] at hi
  by_cases hl : i < L.length
  · have e := h i hl
    unfold at0 at e
    rw [List.getD_eq_getElem?_getD, List.getElem?_append_left hl, ← List.getD_eq_getElem?_getD]
    exact e
  · have e := hM (i - L.length) (by omega)
    unfold at0 at e
    rw [List.getD_eq_getElem?_getD, List.getElem?_append_right (by omega), ← List.getD_eq_getElem?_getD]
    exact e
theorem fine_one {n v : ByteArray} (hn : n.size ≤ 700) (hv : v.size ≤ 700) : Fine [(n, v)] := fun i hi => by
  obtain rfl : i = 0 := by simpa using hi
  exact ⟨hn, hv⟩
/-- All that a walk through the draw keeps. -/
structure Drawn (ty : TypeId) (w wr : World) (cb len cap : Nat) (a : Option Addr) (v : Value) (L : List Pair) : Prop where
  own : pairs.OwnP ty wr w.heap.size v L
  fine : Fine L
  cur : CurAt wr cb a len cap
  but : ButFor cb w wr
theorem Drawn.but_for {ty : TypeId} {w wr w2 : World} {cb len cap : Nat} {a : Option Addr} {v : Value} {L : List Pair} (h : Drawn ty w wr cb len cap a v L) (h0 : cb < w.heap.size) (hc : CurAt w2 cb a len cap) (hb : ButFor cb wr w2) : Drawn ty w w2 cb len cap a v L :=
  ⟨own_but h.own h0 hb, h.fine, hc, h.but.trans hb⟩
theorem Drawn.added {ty : TypeId} {w wr w2 : World} {cb len cap : Nat} {a : Option Addr} {v v' : Value} {L M : List Pair} (h : Drawn ty w wr cb len cap a v L) (h0 : CurAt w cb a len cap) (hM : Fine M) (ho : pairs.OwnP ty w2 w.heap.size v' (L ++ M)) (hs : wr.heap.size ≤ w2.heap.size) (hk : ∀ k, k < w.heap.size → w2.heap[k]? = wr.heap[k]?) (h1 : w2.os = wr.os) (h2 : w2.tape = wr.tape) (h3 : w2.output = wr.output) : Drawn ty w w2 cb len cap a v' (L ++ M) :=
  ⟨ho, h.fine.add hM, h0.keeps h.cur hs hk, h.but.keeps hs hk h1 h2 h3⟩
theorem Drawn.ends {ty : TypeId} {w wr : World} {cb len cap : Nat} {a : Option Addr} {v : Value} {L : List Pair} (h : Drawn ty w wr cb len cap a v L) (hl : L.length ≤ 7) : ∃ (a' : Option Addr) (L' : List Pair) (cap' : Nat), Ending.returned v = .returned (.slice a' L'.length cap') ∧ PairsAt wr a' L' ∧ Fine L' ∧ L'.length ≤ 7 ∧ CurAt wr cb a len cap ∧ ButFor cb w wr := by
  obtain ⟨a', cap', hv, hp⟩ := pairs.OwnP.pairs h.own (by unfold maxLen; omega) (fun i hi => by have := h.fine i hi; unfold maxLen; omega)
  exact ⟨a', L, cap', by rw [hv], hp, h.fine, hl, h.cur, h.but⟩
end Go.Proofs.Ytpejcblmglbjfaa.draws
