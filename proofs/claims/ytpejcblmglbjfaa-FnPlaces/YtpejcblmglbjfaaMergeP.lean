/-
  What merging makes of a list of nodes, and the row that is merged in.
-/
import Derived.Test.YtpejcblmglbjfaaCopyP
import Derived.Laws.OwnMore
namespace Go.Proofs.Ytpejcblmglbjfaa.trees
open Go.ChangeShapes Go.WideShapes Go.ChangeAt Go.RowKit
open pairs (Pair at0 PairsAt)
set_option linter.unusedVariables false
def Tree.withText : Tree → ByteArray → Tree
  | .mk k p l u _ ds ats ks, x => .mk k p l u x ds ats ks
def lastM (out : List Tree) : Tree := kid out (out.length - 1)
/-- One more node. -/
def addM (out : List Tree) (t : Tree) : List Tree :=
  if t.kind = 2 ∧ t.text = ⟨#[]⟩ then out
  else if t.kind = 2 ∧ 0 < out.length ∧ (lastM out).kind = 2 then out.take (out.length - 1) ++ [(lastM out).withText ((lastM out).text ++ t.text)]
  else out ++ [t]
def mergeL (L : List Tree) : List Tree := L.foldl addM []
theorem mergeL_take {L : List Tree} {k : Nat} (h : k < L.length) : mergeL (L.take (k + 1)) = addM (mergeL (L.take k)) (kid L k) := by
  rw [kid_take h]
  unfold mergeL
  rw [List.foldl_append]
  rfl
theorem addM_none {out : List Tree} {t : Tree} (h1 : t.kind = 2) (h2 : t.text = ⟨#[]⟩) : addM out t = out := if_pos ⟨h1, h2⟩
theorem lastM_snoc (R : List Tree) (y : Tree) : lastM (R ++ [y]) = y := by
  unfold lastM kid
  rw [List.length_append, List.length_singleton, Nat.add_sub_cancel, List.getD_eq_getElem?_getD, List.getElem?_append_right (Nat.le_refl _), Nat.sub_self]
  rfl
theorem addM_join {R : List Tree} {y t : Tree} (h1 : t.kind = 2) (h2 : ¬ t.text = ⟨#[]⟩) (h3 : y.kind = 2) : addM (R ++ [y]) t = R ++ [y.withText (y.text ++ t.text)] := by
  unfold addM
  rw [if_neg (fun h => h2 h.2), lastM_snoc, if_pos ⟨h1, by simp, h3⟩]
  congr 1
  simp
theorem addM_more {out : List Tree} {t : Tree} (h : t.kind = 2 → ¬ t.text = ⟨#[]⟩ ∧ (0 < out.length → ¬ (lastM out).kind = 2)) : addM out t = out ++ [t] := by
  unfold addM
  rw [if_neg (fun e => (h e.1).1 e.2), if_neg (fun e => (h e.1).2 e.2.1 e.2.2)]
theorem nszs_append : ∀ (A B : List Tree), nszs (A ++ B) = nszs A + nszs B
  | [], B => by rw [nszs]; simp
  | t :: A, B => by rw [List.cons_append, nszs, nszs, nszs_append A B]; omega
theorem nszs_one (t : Tree) : nszs [t] = 1 + nsz t := by rw [nszs, nszs]; omega
theorem nszs_drop {L : List Tree} {k : Nat} (h : k < L.length) : nszs (L.drop k) = 1 + nsz (kid L k) + nszs (L.drop (k + 1)) := by
  rw [List.drop_eq_getElem_cons h, nszs]
  unfold kid
  rw [List.getD_eq_getElem?_getD, List.getElem?_eq_getElem h]
  rfl
theorem text_nsz (t : Tree) : t.text.size ≤ nsz t := by
  obtain ⟨k, p, l, u, x, ds, ats, ks⟩ := t
  rw [nsz]
  show x.size ≤ _
  omega
theorem nsz_with (t : Tree) (s : ByteArray) : nsz (t.withText (t.text ++ s)) = nsz t + s.size := by
  obtain ⟨k, p, l, u, x, ds, ats, ks⟩ := t
  show nsz (.mk k p l u (x ++ s) ds ats ks) = _
  rw [nsz, nsz, ByteArray.size_append]
  omega
theorem kind_with (t : Tree) (s : ByteArray) : (t.withText s).kind = t.kind := by cases t; rfl
theorem own_text {w : World} {t : Tree} {h : Hdr} {F : Bset} {s : ByteArray} (hn : OwnN w t h F) (hs : s.size ≤ maxLen) : OwnN w (t.withText s) h F := by
  obtain ⟨FD, FA, FK, h1, h2, h3, s1, s2, s3, a1, a2, a3, o1, o2, o3⟩ := hn.parts
  obtain ⟨k, p, l, u, x, ds, ats, ks⟩ := t
  exact PartsN.node ⟨⟨⟨h1.1.1, h1.1.2.1, h1.1.2.2.1, h1.1.2.2.2.1, hs, h1.1.2.2.2.2.2⟩, h1.2⟩, h2, h3, s1, s2, s3, a1, a2, a3, o1, o2, o3⟩
theorem text_ne {t : ByteArray} (h : ¬ t = ⟨#[]⟩) : t.toList.isEmpty = false := by
  rw [ByteArray.toList_eq]
  obtain ⟨⟨l⟩⟩ := t
  cases l with
  | nil => exact absurd rfl h
  | cons a l => rfl
theorem trees1_one (x : TH) : trees1 [x] = [x.1] := rfl
theorem vals_with (t : Tree) (h : Hdr) (s : ByteArray) : (vals t h).toList.set 7 (.string s) = (vals (t.withText s) h).toList := by
  obtain ⟨k, p, l, u, x, ds, ats, ks⟩ := t
  rfl
theorem cellsN_text (P : List TH) (x : TH) (s : ByteArray) : (cellsN (P ++ [x])).set (P.length * 8 + 7) (.string s) = cellsN (P ++ [(x.1.withText s, x.2)]) := by
  rw [cellsN_append, cellsN_append, List.set_append_right _ _ (by rw [cellsN_len]; omega), cellsN_len, Nat.add_sub_cancel_left]
  congr 1
  simp only [cellsN, List.append_nil]
  exact vals_with x.1 x.2 s
theorem RowV.cells {w : World} {B g n c : Nat} {P : List TH} {G : Nat → Bset} (h : RowV w B g n c P G) {i : Nat} (hi : i < n) (q : Nat) (hq : q < 8) : w.cell? ⟨g, i * 8 + q, none⟩ = (vals (th0 P i).1 (th0 P i).2)[q]? := by
  obtain ⟨g', cap, cur, hv, hB, hg, hr, hx⟩ := ownsRow_cells h.own (by omega)
  cases hv
  rw [show w.cell? ⟨g, i * 8 + q, none⟩ = cur[i * 8 + q]? by simp [World.cell?, hg], hx (i * 8 + q) (by omega)]
  exact cellsN_at P i q (by have := h.len; omega) hq
/-- The last node's text is written anew. -/
theorem RowV.text {w : World} {B g n c : Nat} {P : List TH} {G : Nat → Bset} {x : TH} (h : RowV w B g n c (P ++ [x]) G) (s : ByteArray) (hs : s.size ≤ maxLen) : RowV (w.setCell ⟨g, P.length * 8 + 7, none⟩ (.string s)) B g n c (P ++ [(x.1.withText s, x.2)]) G := by
  have ho : Out (fun b => b = g) w (w.setCell ⟨g, P.length * 8 + 7, none⟩ (.string s)) := (Out.refl _ w).set (F := fun b => b = g) rfl _ _
  have hst := (World.ownsRow.stored h.own (P.length * 8 + 7) (.string s)).1
  rw [cellsN_text] at hst
  refine ⟨hst, by rw [← h.len]; simp, fun i b hb => ⟨(h.rng i b hb).1, Nat.lt_of_lt_of_le (h.rng i b hb).2 ho.size⟩, h.not, h.apart, fun i hi => ?_⟩
  have hi' : i < (P ++ [x]).length := by simpa using hi
  have hk := (h.kids i hi').out ho (fun b hb e => h.not i (e ▸ hb))
  by_cases e : i < P.length
  · rw [th0_left e] at hk ⊢
    exact hk
  · obtain rfl : i = P.length := by simp at hi'; omega
    rw [th0_last] at hk ⊢
    exact own_text hk hs
/-- One more node, as add_node has it, however its cells are told. -/
theorem add_node_eq {ops : Array Oper} {rest : List Oper} {o : Oper} {a : Act} {w : World} {Q : Exit → Act → World → Prop} (B g n c : Nat) (P : List TH) (G : Nat → Bset) (x : TH) (F : Bset) (ty : TypeId) (C : Array Value) (hC : C = vals x.1 x.2)
    (hR : RowV w B g n c P G) (hB : B ≤ w.heap.size) (hn : n ≤ 2000000) (hx : OwnN w x.1 x.2 F) (hF : Inc F (fun b => B ≤ b ∧ b < w.heap.size)) (hFg : ¬ F g) (hFa : ∀ i, Apart (G i) F) (hgd : o.guard = none) (s y : Operand)
    (ho : o.op = .call { callee := .builtin .append, args := #[s, y], argTypes := #[26, 26] }) (hs : a.eval s = .slice (some ⟨g, 0, none⟩) n c) (q : Nat) (hy : a.eval y = .slice (some ⟨q, 0, none⟩) 1 1) (hq : q = w.heap.size)
    (h : ∀ g' c' w', RowV w' B g' (n + 1) c' (P ++ [x]) (fun i => if i = n then F else G i) → Below B w w' → w.heap.size ≤ w'.heap.size → wpList Try.prog ops Q rest (a.put o.dst (.slice (some ⟨g', 0, none⟩) (n + 1) c')) w') : wpList Try.prog ops Q (o :: rest) a (w.alloc (.cells C ty)) := by
  subst hC
  exact add_node B g n c P G x F ty hR hB hn hx hF hFg hFa hgd s y ho hs q hy hq h
/-- What Merge answers. -/
def MergeOk (f : FuncId) (L : List Tree) (a : Option Addr) (cap : Nat) (w : World) : Prop :=
  Calls Try.prog f #[.slice a L.length cap] w fun e w' => (∃ g c P G, e = .returned (.slice (some ⟨g, 0, none⟩) P.length c) ∧ trees1 P = mergeL L ∧ RowV w' w.heap.size g P.length c P G ∧ nszs (trees1 P) ≤ nszs L) ∧ Below w.heap.size w w'
end Go.Proofs.Ytpejcblmglbjfaa.trees
