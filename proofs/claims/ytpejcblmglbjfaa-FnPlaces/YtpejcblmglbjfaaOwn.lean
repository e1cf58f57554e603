/-
  Trees that a call owns: each list a row of its own, no two of them the same; what is kept while one of them is written.
-/
import Derived.Test.YtpejcblmglbjfaaAttFns
import Derived.Test.YtpejcblmglbjfaaOwnB
namespace Go.Proofs.Ytpejcblmglbjfaa.trees
open Go.RowKit
open pairs (Pair at0 PairsAt)
set_option linter.unusedVariables false
/-! ### Rows -/
def AFit (L : List Att) : Prop := L.length ≤ maxLen ∧ ∀ i, i < L.length → (att0 L i).fits
def OwnA (w : World) (a : Option Addr) (L : List Att) (F : Bset) : Prop := 0 < L.length → ∃ g, a = some ⟨g, 0, none⟩ ∧ F g ∧ MadeA w g L L.length
theorem madeA_out {w w' : World} {G : Bset} {g : Nat} {L : List Att} {k : Nat} (h : MadeA w g L k) (ho : Out G w w') (hg : ¬ G g) : MadeA w' g L k := by
  obtain ⟨cur, t, h1, h2, h3⟩ := h.all
  exact ⟨cur, t, (ho.block g (pairs.lt_heap h1) hg).trans h1, h2, h3⟩
theorem OwnA.out {w w' : World} {a : Option Addr} {L : List Att} {F G : Bset} (h : OwnA w a L F) (ho : Out G w w') (hd : Apart F G) : OwnA w' a L F := fun h0 => by
  obtain ⟨g, ha, hf, hm⟩ := h h0
  exact ⟨g, ha, hf, madeA_out hm ho (hd g hf)⟩
theorem OwnA.sub {w : World} {a : Option Addr} {L : List Att} {F G : Bset} (h : OwnA w a L F) (hs : Inc F G) : OwnA w a L G := fun h0 => by
  obtain ⟨g, ha, hf, hm⟩ := h h0
  exact ⟨g, ha, hs g hf, hm⟩
theorem OwnA.at {w : World} {a : Option Addr} {L : List Att} {F : Bset} (h : OwnA w a L F) (hf : AFit L) : AttsAt w a L := by
  by_cases h0 : 0 < L.length
  · obtain ⟨g, rfl, _, hm⟩ := h h0
    exact hm.atts hf.1 hf.2
  · exact ⟨fun h => absurd h h0, hf.1, hf.2⟩
/-! ### Nodes -/
mutual
/-- A node whose lists are rows of its own; F are their blocks. -/
def OwnN (w : World) : Tree → Hdr → Bset → Prop
  | .mk k p l u t ds ats ks, h, F => (((Tree.mk k p l u t ds ats ks).fits ∧ ks.length ≤ h.kc) ∧ PFit ds ∧ AFit ats) ∧ ∃ FD FA FK : Bset, (Inc FD F ∧ Inc FA F ∧ Inc FK F) ∧ (Apart FD FA ∧ Apart FD FK ∧ Apart FA FK) ∧ OwnP w h.da ds FD ∧ OwnA w h.aa ats FA ∧
    (0 < ks.length → ∃ (g : Nat) (cur : Array Value) (ty : TypeId) (G : Nat → Bset), h.ka = some ⟨g, 0, none⟩ ∧ FK g ∧ w.heap[g]? = some (.cells cur ty (0, 0)) ∧ ks.length * 8 ≤ cur.size ∧ ((∀ i, Inc (G i) FK) ∧ (∀ i, ¬ G i g) ∧ ∀ i j, i ≠ j → Apart (G i) (G j)) ∧ KidsOwn w G cur ks 0)
def KidsOwn (w : World) (G : Nat → Bset) (cur : Array Value) : List Tree → Nat → Prop
  | [], _ => True
  | t :: ts, i => (∃ h, OwnN w t h (G i) ∧ ∀ j, j < 8 → cur[i * 8 + j]? = (vals t h)[j]?) ∧ KidsOwn w G cur ts (i + 1)
end
theorem kids_own {w : World} {G : Nat → Bset} {cur : Array Value} : ∀ (L : List Tree) (o : Nat), KidsOwn w G cur L o ↔ ∀ i, i < L.length → ∃ h, OwnN w (kid L i) h (G (o + i)) ∧ ∀ j, j < 8 → cur[(o + i) * 8 + j]? = (vals (kid L i) h)[j]?
  | [], o => by rw [KidsOwn]; exact ⟨fun _ i hi => absurd hi (by simp), fun _ => trivial⟩
  | t :: ts, o => by
    rw [KidsOwn, kids_own ts (o + 1)]
    constructor
    · rintro ⟨h0, h1⟩ i hi
      cases i with
      | zero => exact h0
      | succ i =>
        have := h1 i (by simpa using hi)
        rw [show o + 1 + i = o + (i + 1) by omega] at this
        exact this
    · intro h
      refine ⟨h 0 (by simp), fun i hi => ?_⟩
      have := h (i + 1) (by simpa using hi)
      rw [show o + (i + 1) = o + 1 + i by omega] at this
      exact this
/-- A row of nodes that is owned. -/
structure RowN (w : World) (g : Nat) (L : List Tree) (F : Bset) (G : Nat → Bset) (cur : Array Value) (ty : TypeId) : Prop where
  mem : F g
  blk : w.heap[g]? = some (.cells cur ty (0, 0))
  room : L.length * 8 ≤ cur.size
  sub : ∀ i, Inc (G i) F
  not : ∀ i, ¬ G i g
  apart : ∀ i j, i ≠ j → Apart (G i) (G j)
  kids : ∀ i, i < L.length → ∃ h, OwnN w (kid L i) h (G i) ∧ ∀ j, j < 8 → cur[i * 8 + j]? = (vals (kid L i) h)[j]?
def OwnL (w : World) (a : Option Addr) (L : List Tree) (F : Bset) : Prop := 0 < L.length → ∃ g cur ty G, a = some ⟨g, 0, none⟩ ∧ RowN w g L F G cur ty
theorem row_own {w : World} {a : Option Addr} {L : List Tree} {F : Bset} : OwnL w a L F ↔ (0 < L.length → ∃ (g : Nat) (cur : Array Value) (ty : TypeId) (G : Nat → Bset), a = some ⟨g, 0, none⟩ ∧ F g ∧ w.heap[g]? = some (.cells cur ty (0, 0)) ∧ L.length * 8 ≤ cur.size ∧ ((∀ i, Inc (G i) F) ∧ (∀ i, ¬ G i g) ∧ ∀ i j, i ≠ j → Apart (G i) (G j)) ∧ KidsOwn w G cur L 0) := by
  constructor
  · intro h h0
    obtain ⟨g, cur, ty, G, ha, h1, h2, h3, h4, h5, h6, h7⟩ := h h0
    exact ⟨g, cur, ty, G, ha, h1, h2, h3, ⟨h4, h5, h6⟩, (kids_own L 0).2 (fun i hi => by rw [Nat.zero_add]; exact h7 i hi)⟩
  · intro h h0
    obtain ⟨g, cur, ty, G, ha, h1, h2, h3, ⟨h4, h5, h6⟩, h7⟩ := h h0
    exact ⟨g, cur, ty, G, ha, h1, h2, h3, h4, h5, h6, fun i hi => by have := (kids_own L 0).1 h7 i hi; rw [Nat.zero_add] at this; exact this⟩
/-- The parts of an owned node. -/
structure PartsN (w : World) (t : Tree) (h : Hdr) (F FD FA FK : Bset) : Prop where
  fit : t.fits ∧ t.kids.length ≤ h.kc
  pf : PFit t.ds
  af : AFit t.ats
  sd : Inc FD F
  sa : Inc FA F
  sk : Inc FK F
  da : Apart FD FA
  dk : Apart FD FK
  ak : Apart FA FK
  ds : OwnP w h.da t.ds FD
  ats : OwnA w h.aa t.ats FA
  kids : OwnL w h.ka t.kids FK
theorem OwnN.parts {w : World} {t : Tree} {h : Hdr} {F : Bset} (hn : OwnN w t h F) : ∃ FD FA FK, PartsN w t h F FD FA FK := by
  obtain ⟨k, p, l, u, x, ds, ats, ks⟩ := t
  rw [OwnN] at hn
  obtain ⟨⟨h1, h2, h3⟩, FD, FA, FK, ⟨s1, s2, s3⟩, ⟨a1, a2, a3⟩, o1, o2, o3⟩ := hn
  exact ⟨FD, FA, FK, h1, h2, h3, s1, s2, s3, a1, a2, a3, o1, o2, row_own.2 o3⟩
theorem PartsN.node {w : World} {t : Tree} {h : Hdr} {F FD FA FK : Bset} (hp : PartsN w t h F FD FA FK) : OwnN w t h F := by
  obtain ⟨h1, h2, h3, s1, s2, s3, a1, a2, a3, o1, o2, o3⟩ := hp
  obtain ⟨k, p, l, u, x, ds, ats, ks⟩ := t
  rw [OwnN]
  exact ⟨⟨h1, h2, h3⟩, FD, FA, FK, ⟨s1, s2, s3⟩, ⟨a1, a2, a3⟩, o1, o2, row_own.1 o3⟩
theorem OwnN.sub {w : World} {t : Tree} {h : Hdr} {F F' : Bset} (hn : OwnN w t h F) (hs : Inc F F') : OwnN w t h F' := by
  obtain ⟨FD, FA, FK, h1, h2, h3, s1, s2, s3, a1, a2, a3, o1, o2, o3⟩ := hn.parts
  exact PartsN.node ⟨h1, h2, h3, s1.trans hs, s2.trans hs, s3.trans hs, a1, a2, a3, o1, o2, o3⟩
theorem OwnL.sub {w : World} {a : Option Addr} {L : List Tree} {F F' : Bset} (h : OwnL w a L F) (hs : Inc F F') : OwnL w a L F' := fun h0 => by
  obtain ⟨g, cur, ty, G, ha, h1, h2, h3, h4, h5, h6, h7⟩ := h h0
  exact ⟨g, cur, ty, G, ha, hs g h1, h2, h3, fun i => (h4 i).trans hs, h5, h6, h7⟩
/-- What is owned stays while something else is written. -/
theorem own_out {w w' : World} {B : Bset} (ho : Out B w w') : ∀ n, ∀ (t : Tree) (h : Hdr) (F : Bset), tsize t < n → OwnN w t h F → Apart F B → OwnN w' t h F
  | 0, t, h, F, ht, _, _ => by omega
  | n + 1, t, h, F, ht, hn, hd => by
    obtain ⟨FD, FA, FK, h1, h2, h3, s1, s2, s3, a1, a2, a3, o1, o2, o3⟩ := hn.parts
    refine PartsN.node ⟨h1, h2, h3, s1, s2, s3, a1, a2, a3, o1.out ho (hd.sub s1 (Inc.refl _)), o2.out ho (hd.sub s2 (Inc.refl _)), fun h0 => ?_⟩
    obtain ⟨g, cur, ty, G, ha, m1, m2, m3, m4, m5, m6, m7⟩ := o3 h0
    refine ⟨g, cur, ty, G, ha, m1, (ho.block g (pairs.lt_heap m2) (hd g (s3 g m1))).trans m2, m3, m4, m5, m6, fun i hi => ?_⟩
    obtain ⟨h', e1, e2⟩ := m7 i hi
    exact ⟨h', own_out ho n (kid t.kids i) h' (G i) (by have := tsize_kid t i hi; omega) e1 (hd.sub ((m4 i).trans s3) (Inc.refl _)), e2⟩
theorem OwnN.out {w w' : World} {B F : Bset} {t : Tree} {h : Hdr} (hn : OwnN w t h F) (ho : Out B w w') (hd : Apart F B) : OwnN w' t h F := own_out ho _ t h F (Nat.lt_succ_self _) hn hd
theorem OwnL.out {w w' : World} {B F : Bset} {a : Option Addr} {L : List Tree} (hn : OwnL w a L F) (ho : Out B w w') (hd : Apart F B) : OwnL w' a L F := fun h0 => by
  obtain ⟨g, cur, ty, G, ha, m1, m2, m3, m4, m5, m6, m7⟩ := hn h0
  refine ⟨g, cur, ty, G, ha, m1, (ho.block g (pairs.lt_heap m2) (hd g m1)).trans m2, m3, m4, m5, m6, fun i hi => ?_⟩
  obtain ⟨h', e1, e2⟩ := m7 i hi
  exact ⟨h', e1.out ho (hd.sub (m4 i) (Inc.refl _)), e2⟩
theorem none_apart (F : Bset) : Apart F (fun _ => False) := fun _ _ h => h
theorem OwnN.below {w w' : World} {F : Bset} {t : Tree} {h : Hdr} (hn : OwnN w t h F) (hb : Below w.heap.size w w') : OwnN w' t h F := hn.out (B := fun _ => False) (Out.of_below hb) (none_apart _)
theorem OwnL.below {w w' : World} {F : Bset} {a : Option Addr} {L : List Tree} (hn : OwnL w a L F) (hb : Below w.heap.size w w') : OwnL w' a L F := hn.out (B := fun _ => False) (Out.of_below hb) (none_apart _)
/-- What is owned is there. -/
theorem own_in {w : World} : ∀ n, ∀ (t : Tree) (h : Hdr) (F : Bset), tsize t < n → OwnN w t h F → NodeIn w 0 t h
  | 0, t, h, F, ht, _ => by omega
  | n + 1, t, h, F, ht, hn => by
    obtain ⟨FD, FA, FK, h1, h2, h3, s1, s2, s3, a1, a2, a3, o1, o2, o3⟩ := hn.parts
    refine node_of h1 (o1.at h2) (o2.at h3) ⟨fun h0 => ?_, h1.1.2.2.2.2.2, fun _ _ => Nat.zero_le _⟩ (fun _ _ => Nat.zero_le _) (fun _ _ => Nat.zero_le _)
    obtain ⟨g, cur, ty, G, ha, m1, m2, m3, m4, m5, m6, m7⟩ := o3 h0
    refine ⟨g, 0, ha, pairs.lt_heap m2, fun i hi => ?_⟩
    obtain ⟨h', e1, e2⟩ := m7 i hi
    have e : ∀ j, j < 8 → w.cell? ⟨g, 0 + i * 8 + j, none⟩ = (vals (kid t.kids i) h')[j]? := fun j hj => by
      rw [← e2 j hj, Nat.zero_add]
      simp [World.cell?, m2]
    exact ⟨h', own_in n _ h' (G i) (by have := tsize_kid t i hi; omega) e1, e 0 (by omega), e 1 (by omega), e 2 (by omega), e 3 (by omega), e 4 (by omega), e 5 (by omega), e 6 (by omega), e 7 (by omega)⟩
theorem OwnN.in {w : World} {t : Tree} {h : Hdr} {F : Bset} (hn : OwnN w t h F) : NodeIn w 0 t h := own_in _ t h F (Nat.lt_succ_self _) hn
theorem OwnL.at {w : World} {a : Option Addr} {L : List Tree} {F : Bset} (hn : OwnL w a L F) (hl : L.length ≤ maxLen) : NodesAt w 0 a L := by
  refine ⟨fun h0 => ?_, hl, fun _ _ => Nat.zero_le _⟩
  obtain ⟨g, cur, ty, G, ha, m1, m2, m3, m4, m5, m6, m7⟩ := hn h0
  refine ⟨g, 0, ha, pairs.lt_heap m2, fun i hi => ?_⟩
  obtain ⟨h', e1, e2⟩ := m7 i hi
  have e : ∀ j, j < 8 → w.cell? ⟨g, 0 + i * 8 + j, none⟩ = (vals (kid L i) h')[j]? := fun j hj => by
    rw [← e2 j hj, Nat.zero_add]
    simp [World.cell?, m2]
  exact ⟨h', e1.in, e 0 (by omega), e 1 (by omega), e 2 (by omega), e 3 (by omega), e 4 (by omega), e 5 (by omega), e 6 (by omega), e 7 (by omega)⟩
end Go.Proofs.Ytpejcblmglbjfaa.trees
