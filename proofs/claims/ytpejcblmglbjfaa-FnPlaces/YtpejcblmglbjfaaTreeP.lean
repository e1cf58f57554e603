/-
  Trees, plain and in memory.
-/
import Derived.Test.YtpejcblmglbjfaaPairs
namespace Go.Proofs.Ytpejcblmglbjfaa.trees
open Go.RowKit
open pairs (Pair at0 PairsAt)
set_option linter.unusedVariables false
/-! ### Attrs: structs of four texts -/
structure Att where
  pre : ByteArray
  loc : ByteArray
  uri : ByteArray
  val : ByteArray
def noAtt : Att := ⟨⟨#[]⟩, ⟨#[]⟩, ⟨#[]⟩, ⟨#[]⟩⟩
def att0 (L : List Att) (i : Nat) : Att := L.getD i noAtt
def Att.fits (x : Att) : Prop := x.pre.size ≤ maxLen ∧ x.loc.size ≤ maxLen ∧ x.uri.size ≤ maxLen ∧ x.val.size ≤ maxLen
/-- A slice at a of just these Attrs. -/
structure AttsAt (w : World) (a : Option Addr) (L : List Att) : Prop where
  row : 0 < L.length → ∃ b off, a = some ⟨b, off, none⟩ ∧ b < w.heap.size ∧ ∀ i, i < L.length → w.cell? ⟨b, off + i * 4, none⟩ = some (.string (att0 L i).pre) ∧ w.cell? ⟨b, off + i * 4 + 1, none⟩ = some (.string (att0 L i).loc) ∧ w.cell? ⟨b, off + i * 4 + 2, none⟩ = some (.string (att0 L i).uri) ∧ w.cell? ⟨b, off + i * 4 + 3, none⟩ = some (.string (att0 L i).val)
  short : L.length ≤ maxLen
  texts : ∀ i, i < L.length → (att0 L i).fits
theorem AttsAt.below {w w' : World} {a : Option Addr} {L : List Att} (h : AttsAt w a L) {B : Nat} (hB : w.heap.size ≤ B) (hb : Below B w w') : AttsAt w' a L :=
  ⟨fun h0 => by
    obtain ⟨b, off, ha, hlt, hc⟩ := h.row h0
    have hlt' := Nat.lt_of_lt_of_le hlt hB
    refine ⟨b, off, ha, Nat.lt_of_lt_of_le hlt hb.size, fun i hi => ?_⟩
    rw [hb.cell (p := ⟨b, off + i * 4, none⟩) hlt', hb.cell (p := ⟨b, off + i * 4 + 1, none⟩) hlt', hb.cell (p := ⟨b, off + i * 4 + 2, none⟩) hlt', hb.cell (p := ⟨b, off + i * 4 + 3, none⟩) hlt']
    exact hc i hi, h.short, h.texts⟩
theorem cell_keep {w w' : World} {b o : Nat} (h : w'.heap[b]? = w.heap[b]?) : w'.cell? ⟨b, o, none⟩ = w.cell? ⟨b, o, none⟩ := World.cell?_of_block (w := w) h
theorem AttsAt.keep {w w' : World} {a : Option Addr} {L : List Att} (h : AttsAt w a L) (hs : w.heap.size ≤ w'.heap.size) (hk : ∀ b off, a = some ⟨b, off, none⟩ → b < w.heap.size → w'.heap[b]? = w.heap[b]?) : AttsAt w' a L :=
  ⟨fun h0 => by
    obtain ⟨b, off, ha, hlt, hc⟩ := h.row h0
    have hb := hk b off ha hlt
    refine ⟨b, off, ha, Nat.lt_of_lt_of_le hlt hs, fun i hi => ?_⟩
    rw [cell_keep hb, cell_keep hb, cell_keep hb, cell_keep hb]
    exact hc i hi, h.short, h.texts⟩
theorem pairs_keep {w w' : World} {a : Option Addr} {L : List Pair} (h : PairsAt w a L) (hs : w.heap.size ≤ w'.heap.size) (hk : ∀ b off, a = some ⟨b, off, none⟩ → b < w.heap.size → w'.heap[b]? = w.heap[b]?) : PairsAt w' a L :=
  ⟨fun h0 => by
    obtain ⟨b, off, ha, hlt, hc⟩ := h.row h0
    have hb := hk b off ha hlt
    refine ⟨b, off, ha, Nat.lt_of_lt_of_le hlt hs, fun i hi => ?_⟩
    rw [cell_keep hb, cell_keep hb]
    exact hc i hi, h.short, h.texts⟩
theorem nil_atts (w : World) : AttsAt w none [] := ⟨fun h => absurd h (by simp), by simp, fun i hi => by cases hi⟩
/-! ### Nodes -/
inductive Tree where
  | mk (kind : Int) (pre loc uri text : ByteArray) (ds : List Pair) (ats : List Att) (kids : List Tree)
namespace Tree
def kind : Tree → Int | .mk k _ _ _ _ _ _ _ => k
def pre : Tree → ByteArray | .mk _ p _ _ _ _ _ _ => p
def loc : Tree → ByteArray | .mk _ _ l _ _ _ _ _ => l
def uri : Tree → ByteArray | .mk _ _ _ u _ _ _ _ => u
def text : Tree → ByteArray | .mk _ _ _ _ t _ _ _ => t
def ds : Tree → List Pair | .mk _ _ _ _ _ d _ _ => d
def ats : Tree → List Att | .mk _ _ _ _ _ _ a _ => a
def kids : Tree → List Tree | .mk _ _ _ _ _ _ _ k => k
end Tree
def noTree : Tree := .mk 0 ⟨#[]⟩ ⟨#[]⟩ ⟨#[]⟩ ⟨#[]⟩ [] [] []
def kid (L : List Tree) (i : Nat) : Tree := L.getD i noTree
mutual
def tsize : Tree → Nat
  | .mk _ _ _ _ _ _ _ ks => 1 + ksize ks
def ksize : List Tree → Nat
  | [] => 0
  | t :: ts => tsize t + ksize ts
end
theorem tsize_pos (t : Tree) : 0 < tsize t := by cases t; rw [tsize]; omega
theorem ksize_kid : ∀ (L : List Tree) (i : Nat), i < L.length → tsize (kid L i) ≤ ksize L
  | [], i, h => by cases h
  | t :: ts, 0, _ => by
    show tsize t ≤ _
    rw [ksize]; omega
  | t :: ts, i + 1, h => by
    show tsize (kid ts i) ≤ _
    have := ksize_kid ts i (by simpa using h)
    rw [ksize]; omega
theorem tsize_kid (t : Tree) (i : Nat) (h : i < t.kids.length) : tsize (kid t.kids i) < tsize t := by
  cases t
  rw [tsize]
  have := ksize_kid _ i h
  show tsize (kid _ i) < _
  simp only [Tree.kids] at this ⊢
  omega
/-- Where a node's three lists lie, and how much room they have. -/
structure Hdr where
  da : Option Addr
  dc : Nat
  aa : Option Addr
  ac : Nat
  ka : Option Addr
  kc : Nat
/-- All its lists lie at or beyond B. -/
def Hdr.ge (h : Hdr) (B : Nat) : Prop := (∀ ad, h.da = some ad → B ≤ ad.block) ∧ (∀ ad, h.aa = some ad → B ≤ ad.block) ∧ ∀ ad, h.ka = some ad → B ≤ ad.block
/-- The eight cells of a node. -/
def vals (t : Tree) (h : Hdr) : Array Value := #[.int .i64 t.kind, .string t.pre, .string t.loc, .string t.uri, .slice h.da t.ds.length h.dc, .slice h.aa t.ats.length h.ac, .slice h.ka t.kids.length h.kc, .string t.text]
def Tree.fits (t : Tree) : Prop := (-9223372036854775808 ≤ t.kind ∧ t.kind ≤ 9223372036854775807) ∧ t.pre.size ≤ maxLen ∧ t.loc.size ≤ maxLen ∧ t.uri.size ≤ maxLen ∧ t.text.size ≤ maxLen ∧ t.kids.length ≤ maxLen
mutual
/-- A node in memory, all of it at or beyond B. -/
def NodeIn (w : World) (B : Nat) : Tree → Hdr → Prop
  | .mk k p l u t ds ats ks, h => ((Tree.mk k p l u t ds ats ks).fits ∧ ks.length ≤ h.kc) ∧ h.ge B ∧ PairsAt w h.da ds ∧ AttsAt w h.aa ats ∧ (0 < ks.length → ∃ b off, h.ka = some ⟨b, off, none⟩ ∧ b < w.heap.size ∧ KidsIn w B b ks off)
def KidsIn (w : World) (B : Nat) (b : Nat) : List Tree → Nat → Prop
  | [], _ => True
  | t :: ts, off => (∃ h, NodeIn w B t h ∧ ∀ j, j < 8 → w.cell? ⟨b, off + j, none⟩ = (vals t h)[j]?) ∧ KidsIn w B b ts (off + 8)
end
mutual
theorem NodeIn.keep {w w' : World} {B : Nat} (hs : w.heap.size ≤ w'.heap.size) (hk : ∀ k, B ≤ k → k < w.heap.size → w'.heap[k]? = w.heap[k]?) : ∀ (t : Tree) (h : Hdr), NodeIn w B t h → NodeIn w' B t h
  | .mk k p l u t ds ats ks, h, hn => by
    rw [NodeIn] at hn ⊢
    obtain ⟨h1, hg, h2, h3, h4⟩ := hn
    refine ⟨h1, hg, pairs_keep h2 hs (fun b off ha hlt => hk b (hg.1 _ ha) hlt), h3.keep hs (fun b off ha hlt => hk b (hg.2.1 _ ha) hlt), fun h0 => ?_⟩
    obtain ⟨b, off, ha, hlt, hks⟩ := h4 h0
    exact ⟨b, off, ha, Nat.lt_of_lt_of_le hlt hs, KidsIn.keep hs hk b (hg.2.2 _ ha) hlt ks off hks⟩
theorem KidsIn.keep {w w' : World} {B : Nat} (hs : w.heap.size ≤ w'.heap.size) (hk : ∀ k, B ≤ k → k < w.heap.size → w'.heap[k]? = w.heap[k]?) (b : Nat) (hb : B ≤ b) (hlt : b < w.heap.size) : ∀ (L : List Tree) (off : Nat), KidsIn w B b L off → KidsIn w' B b L off
  | [], _, _ => by rw [KidsIn]; trivial
  | t :: ts, off, hks => by
    rw [KidsIn] at hks ⊢
    obtain ⟨⟨h, h1, h2⟩, h3⟩ := hks
    refine ⟨⟨h, NodeIn.keep hs hk t h h1, fun j hj => ?_⟩, KidsIn.keep hs hk b hb hlt ts (off + 8) h3⟩
    rw [cell_keep (hk b hb hlt)]
    exact h2 j hj
end
theorem NodeIn.below {w w' : World} {B : Nat} {t : Tree} {h : Hdr} (hn : NodeIn w B t h) (hb : Below w.heap.size w w') : NodeIn w' B t h := NodeIn.keep hb.size (fun k _ hk => hb.block k hk) t h hn
theorem Hdr.ge.mono {h : Hdr} {B B' : Nat} (hg : h.ge B) (hB : B' ≤ B) : h.ge B' := ⟨fun ad e => Nat.le_trans hB (hg.1 ad e), fun ad e => Nat.le_trans hB (hg.2.1 ad e), fun ad e => Nat.le_trans hB (hg.2.2 ad e)⟩
mutual
theorem NodeIn.mono {w : World} {B B' : Nat} (hB : B' ≤ B) : ∀ (t : Tree) (h : Hdr), NodeIn w B t h → NodeIn w B' t h
  | .mk k p l u t ds ats ks, h, hn => by
    rw [NodeIn] at hn ⊢
    obtain ⟨h1, hg, h2, h3, h4⟩ := hn
    refine ⟨h1, hg.mono hB, h2, h3, fun h0 => ?_⟩
    obtain ⟨b, off, ha, hlt, hks⟩ := h4 h0
    exact ⟨b, off, ha, hlt, KidsIn.mono hB b ks off hks⟩
theorem KidsIn.mono {w : World} {B B' : Nat} (hB : B' ≤ B) (b : Nat) : ∀ (L : List Tree) (off : Nat), KidsIn w B b L off → KidsIn w B' b L off
  | [], _, _ => by rw [KidsIn]; trivial
  | t :: ts, off, hks => by
    rw [KidsIn] at hks ⊢
    obtain ⟨⟨h, h1, h2⟩, h3⟩ := hks
    exact ⟨⟨h, NodeIn.mono hB t h h1, h2⟩, KidsIn.mono hB b ts (off + 8) h3⟩
end
theorem kid_in {w : World} {B b : Nat} : ∀ (L : List Tree) (off i : Nat), KidsIn w B b L off → i < L.length → ∃ h, NodeIn w B (kid L i) h ∧ ∀ j, j < 8 → w.cell? ⟨b, off + i * 8 + j, none⟩ = (vals (kid L i) h)[j]?
  | [], _, _, _, h => by cases h
  | t :: ts, off, 0, hk, _ => by
    rw [KidsIn] at hk
    obtain ⟨⟨h, h1, h2⟩, _⟩ := hk
    exact ⟨h, h1, fun j hj => by rw [show off + 0 * 8 + j = off + j by omega]; exact h2 j hj⟩
  | t :: ts, off, i + 1, hk, hi => by
    rw [KidsIn] at hk
    obtain ⟨h, h1, h2⟩ := kid_in ts (off + 8) i hk.2 (by simpa using hi)
    exact ⟨h, h1, fun j hj => by rw [show off + (i + 1) * 8 + j = off + 8 + i * 8 + j by omega]; exact h2 j hj⟩
theorem kids_of {w : World} {B b : Nat} : ∀ (L : List Tree) (off : Nat), (∀ i, i < L.length → ∃ h, NodeIn w B (kid L i) h ∧ ∀ j, j < 8 → w.cell? ⟨b, off + i * 8 + j, none⟩ = (vals (kid L i) h)[j]?) → KidsIn w B b L off
  | [], _, _ => by rw [KidsIn]; trivial
  | t :: ts, off, hk => by
    rw [KidsIn]
    refine ⟨?_, kids_of ts (off + 8) fun i hi => ?_⟩
    · obtain ⟨h, h1, h2⟩ := hk 0 (by simp)
      exact ⟨h, h1, fun j hj => by have := h2 j hj; rwa [show off + 0 * 8 + j = off + j by omega] at this⟩
    · obtain ⟨h, h1, h2⟩ := hk (i + 1) (by simpa using hi)
      exact ⟨h, h1, fun j hj => by have := h2 j hj; rwa [show off + (i + 1) * 8 + j = off + 8 + i * 8 + j by omega] at this⟩
/-- A slice at a of just these nodes. -/
structure NodesAt (w : World) (B : Nat) (a : Option Addr) (L : List Tree) : Prop where
  row : 0 < L.length → ∃ b off, a = some ⟨b, off, none⟩ ∧ b < w.heap.size ∧ ∀ i, i < L.length → ∃ h, NodeIn w B (kid L i) h ∧
    w.cell? ⟨b, off + i * 8, none⟩ = some (.int .i64 (kid L i).kind) ∧ w.cell? ⟨b, off + i * 8 + 1, none⟩ = some (.string (kid L i).pre) ∧ w.cell? ⟨b, off + i * 8 + 2, none⟩ = some (.string (kid L i).loc) ∧ w.cell? ⟨b, off + i * 8 + 3, none⟩ = some (.string (kid L i).uri) ∧
    w.cell? ⟨b, off + i * 8 + 4, none⟩ = some (.slice h.da (kid L i).ds.length h.dc) ∧ w.cell? ⟨b, off + i * 8 + 5, none⟩ = some (.slice h.aa (kid L i).ats.length h.ac) ∧ w.cell? ⟨b, off + i * 8 + 6, none⟩ = some (.slice h.ka (kid L i).kids.length h.kc) ∧ w.cell? ⟨b, off + i * 8 + 7, none⟩ = some (.string (kid L i).text)
  short : L.length ≤ maxLen
  ge : ∀ ad, a = some ad → B ≤ ad.block
theorem kids_at {w : World} {B : Nat} {t : Tree} {h : Hdr} (hn : NodeIn w B t h) : NodesAt w B h.ka t.kids := by
  obtain ⟨k, p, l, u, x, ds, ats, ks⟩ := t
  rw [NodeIn] at hn
  obtain ⟨h1, hg, _, _, h4⟩ := hn
  refine ⟨fun h0 => ?_, h1.1.2.2.2.2.2, hg.2.2⟩
  obtain ⟨b, off, ha, hlt, hk⟩ := h4 h0
  refine ⟨b, off, ha, hlt, fun i hi => ?_⟩
  obtain ⟨h', e1, e2⟩ := kid_in ks off i hk hi
  exact ⟨h', e1, e2 0 (by omega), e2 1 (by omega), e2 2 (by omega), e2 3 (by omega), e2 4 (by omega), e2 5 (by omega), e2 6 (by omega), e2 7 (by omega)⟩
theorem NodeIn.fit {w : World} {B : Nat} {t : Tree} {h : Hdr} (hn : NodeIn w B t h) : t.fits := by cases t; rw [NodeIn] at hn; exact hn.1.1
theorem NodeIn.room {w : World} {B : Nat} {t : Tree} {h : Hdr} (hn : NodeIn w B t h) : t.kids.length ≤ h.kc := by cases t; rw [NodeIn] at hn; exact hn.1.2
theorem NodeIn.ge {w : World} {B : Nat} {t : Tree} {h : Hdr} (hn : NodeIn w B t h) : h.ge B := by cases t; rw [NodeIn] at hn; exact hn.2.1
theorem NodeIn.decls {w : World} {B : Nat} {t : Tree} {h : Hdr} (hn : NodeIn w B t h) : PairsAt w h.da t.ds := by cases t; rw [NodeIn] at hn; exact hn.2.2.1
theorem NodeIn.atts {w : World} {B : Nat} {t : Tree} {h : Hdr} (hn : NodeIn w B t h) : AttsAt w h.aa t.ats := by cases t; rw [NodeIn] at hn; exact hn.2.2.2.1
theorem NodesAt.keep {w w' : World} {B : Nat} {a : Option Addr} {L : List Tree} (hn : NodesAt w B a L) (hs : w.heap.size ≤ w'.heap.size) (hk : ∀ k, B ≤ k → k < w.heap.size → w'.heap[k]? = w.heap[k]?) : NodesAt w' B a L :=
  ⟨fun h0 => by
    obtain ⟨b, off, ha, hlt, hc⟩ := hn.row h0
    have hb := hk b (hn.ge _ ha) hlt
    refine ⟨b, off, ha, Nat.lt_of_lt_of_le hlt hs, fun i hi => ?_⟩
    obtain ⟨h, h1, h2⟩ := hc i hi
    refine ⟨h, NodeIn.keep hs hk _ _ h1, ?_⟩
    rw [cell_keep hb, cell_keep hb, cell_keep hb, cell_keep hb, cell_keep hb, cell_keep hb, cell_keep hb, cell_keep hb]
    exact h2, hn.short, hn.ge⟩
theorem NodesAt.below {w w' : World} {B : Nat} {a : Option Addr} {L : List Tree} (hn : NodesAt w B a L) (hb : Below w.heap.size w w') : NodesAt w' B a L := hn.keep hb.size (fun k _ hk => hb.block k hk)
/-- A node out of its parts. -/
theorem node_of {w : World} {B : Nat} {t : Tree} {h : Hdr} (hf : t.fits ∧ t.kids.length ≤ h.kc) (hd : PairsAt w h.da t.ds) (ha : AttsAt w h.aa t.ats) (hk : NodesAt w B h.ka t.kids) (h1 : ∀ ad, h.da = some ad → B ≤ ad.block) (h2 : ∀ ad, h.aa = some ad → B ≤ ad.block) : NodeIn w B t h := by
  obtain ⟨k, p, l, u, x, ds, ats, ks⟩ := t
  rw [NodeIn]
  refine ⟨hf, ⟨h1, h2, hk.ge⟩, hd, ha, fun h0 => ?_⟩
  obtain ⟨b, off, e, hlt, hc⟩ := hk.row h0
  refine ⟨b, off, e, hlt, kids_of ks off fun i hi => ?_⟩
  obtain ⟨h', hn, c0, c1, c2, c3, c4, c5, c6, c7⟩ := hc i hi
  refine ⟨h', hn, fun j hj => ?_⟩
  rcases (show j = 0 ∨ j = 1 ∨ j = 2 ∨ j = 3 ∨ j = 4 ∨ j = 5 ∨ j = 6 ∨ j = 7 by omega) with rfl | rfl | rfl | rfl | rfl | rfl | rfl | rfl
  · exact c0
  · exact c1
  · exact c2
  · exact c3
  · exact c4
  · exact c5
  · exact c6
  · exact c7
/-- A node in memory, as one word (NodeIn is laid open by the unifier). -/
structure NodeAt (w : World) (B : Nat) (t : Tree) (h : Hdr) : Prop where
  node : NodeIn w B t h
theorem NodeAt.below {w w' : World} {B : Nat} {t : Tree} {h : Hdr} (hn : NodeAt w B t h) (hb : Below w.heap.size w w') : NodeAt w' B t h := ⟨hn.node.below hb⟩
end Go.Proofs.Ytpejcblmglbjfaa.trees
