/-
  A draw of an element.
-/
import Derived.Test.YtpejcblmglbjfaaDrawElE
import Derived.Test.YtpejcblmglbjfaaSpecMerge
import Derived.Test.YtpejcblmglbjfaaCalmTail
import Derived.Deep.RegionWith
import Derived.Deep.RegionLaw
import Derived.Deep.CutRange
import Derived.Deep.CutBlock
namespace Go.Proofs.Ytpejcblmglbjfaa.draws
open Go.ChangeShapes Go.WideShapes Go.ChangeAt Go.RowKit
open pairs (Pair at0 PairsAt)
open trees (Att Tree Hdr vals TH th0 cellsN Bset Out Inc Apart OwnN OwnP OwnA OwnL RowA RowV Rng nsz nszs trees1 box8 box_froz box_kept box_under)
set_option linter.unusedVariables false
def loc5L : List ByteArray := [⟨#[97]⟩, ⟨#[98]⟩, ⟨#[99]⟩, ⟨#[105, 116, 101, 109]⟩]
def pre5L : List ByteArray := [⟨#[112]⟩, ⟨#[113]⟩]
def at5L : List ByteArray := [⟨#[105, 100]⟩, ⟨#[107]⟩, ⟨#[118]⟩]
def ap5L : List ByteArray := [⟨#[]⟩, ⟨#[]⟩, ⟨#[112]⟩]
def val5L : List ByteArray := [⟨#[]⟩, ⟨#[49]⟩, ⟨#[50]⟩, ⟨#[120, 32, 121]⟩, ⟨#[195, 169]⟩, ⟨#[60, 38, 62, 34]⟩, ⟨#[97, 10, 98]⟩, ⟨#[9]⟩]
theorem small5 : (∀ s ∈ loc5L, s.size ≤ 4) ∧ (∀ s ∈ pre5L, s.size ≤ 4) ∧ (∀ s ∈ at5L, s.size ≤ 4) ∧ (∀ s ∈ ap5L, s.size ≤ 4) ∧ ∀ s ∈ val5L, s.size ≤ 4 := by
  refine ⟨?_, ?_, ?_, ?_, ?_⟩
  · intro s hs
    simp only [loc5L, List.mem_cons, List.mem_nil_iff, or_false] at hs
    rcases hs with rfl | rfl | rfl | rfl <;> decide
  · intro s hs
    simp only [pre5L, List.mem_cons, List.mem_nil_iff, or_false] at hs
    rcases hs with rfl | rfl <;> decide
  · intro s hs
    simp only [at5L, List.mem_cons, List.mem_nil_iff, or_false] at hs
    rcases hs with rfl | rfl | rfl <;> decide
  · intro s hs
    simp only [ap5L, List.mem_cons, List.mem_nil_iff, or_false] at hs
    rcases hs with rfl | rfl | rfl <;> decide
  · intro s hs
    simp only [val5L, List.mem_cons, List.mem_nil_iff, or_false] at hs
    rcases hs with rfl | rfl | rfl | rfl | rfl | rfl | rfl | rfl <;> decide
theorem loc5_list (w : World) (q cb len cap : Nat) (a : Option Addr) (hq : q = w.heap.size) (hc : CurAt w cb a len cap) :
    Calls Try.prog 88 #[.pointer (some ⟨cb, 0, none⟩), .slice (some ⟨q, 0, none⟩) 4 4] (w.alloc (.cells #[.string ⟨#[97]⟩, .string ⟨#[98]⟩, .string ⟨#[99]⟩, .string ⟨#[105, 116, 101, 109]⟩] 9)) fun e w' => ∃ s, s ∈ loc5L ∧ e = .returned (.string s) ∧ CurAt w' cb a len cap ∧ ButFor cb w w' := by
  subst hq
  exact str_new w cb len cap 4 4 a loc5L _ 9 rfl rfl (by decide) (by decide) hc
theorem pre5_list (w : World) (q cb len cap : Nat) (a : Option Addr) (hq : q = w.heap.size) (hc : CurAt w cb a len cap) :
    Calls Try.prog 88 #[.pointer (some ⟨cb, 0, none⟩), .slice (some ⟨q, 0, none⟩) 2 2] (w.alloc (.cells #[.string ⟨#[112]⟩, .string ⟨#[113]⟩] 9)) fun e w' => ∃ s, s ∈ pre5L ∧ e = .returned (.string s) ∧ CurAt w' cb a len cap ∧ ButFor cb w w' := by
  subst hq
  exact str_new w cb len cap 2 2 a pre5L _ 9 rfl rfl (by decide) (by decide) hc
theorem at5_list (w : World) (q cb len cap : Nat) (a : Option Addr) (hq : q = w.heap.size) (hc : CurAt w cb a len cap) :
    Calls Try.prog 88 #[.pointer (some ⟨cb, 0, none⟩), .slice (some ⟨q, 0, none⟩) 3 3] (w.alloc (.cells #[.string ⟨#[105, 100]⟩, .string ⟨#[107]⟩, .string ⟨#[118]⟩] 9)) fun e w' => ∃ s, s ∈ at5L ∧ e = .returned (.string s) ∧ CurAt w' cb a len cap ∧ ButFor cb w w' := by
  subst hq
  exact str_new w cb len cap 3 3 a at5L _ 9 rfl rfl (by decide) (by decide) hc
theorem ap5_list (w : World) (q cb len cap : Nat) (a : Option Addr) (hq : q = w.heap.size) (hc : CurAt w cb a len cap) :
    Calls Try.prog 88 #[.pointer (some ⟨cb, 0, none⟩), .slice (some ⟨q, 0, none⟩) 3 3] (w.alloc (.cells #[.string ⟨#[]⟩, .string ⟨#[]⟩, .string ⟨#[112]⟩] 9)) fun e w' => ∃ s, s ∈ ap5L ∧ e = .returned (.string s) ∧ CurAt w' cb a len cap ∧ ButFor cb w w' := by
  subst hq
  exact str_new w cb len cap 3 3 a ap5L _ 9 rfl rfl (by decide) (by decide) hc
theorem val5_list (w : World) (q cb len cap : Nat) (a : Option Addr) (hq : q = w.heap.size) (hc : CurAt w cb a len cap) :
    Calls Try.prog 88 #[.pointer (some ⟨cb, 0, none⟩), .slice (some ⟨q, 0, none⟩) 8 8] (w.alloc (.cells #[.string ⟨#[]⟩, .string ⟨#[49]⟩, .string ⟨#[50]⟩, .string ⟨#[120, 32, 121]⟩, .string ⟨#[195, 169]⟩, .string ⟨#[60, 38, 62, 34]⟩, .string ⟨#[97, 10, 98]⟩, .string ⟨#[9]⟩] 9)) fun e w' => ∃ s, s ∈ val5L ∧ e = .returned (.string s) ∧ CurAt w' cb a len cap ∧ ButFor cb w w' := by
  subst hq
  exact str_new w cb len cap 8 8 a val5L _ 9 rfl rfl (by decide) (by decide) hc
def tx5L : List ByteArray := [⟨#[120]⟩, ⟨#[121]⟩, ⟨#[32]⟩, ⟨#[10, 32, 32]⟩, ⟨#[49]⟩, ⟨#[226, 130, 172, 60]⟩]
def nt5L : List ByteArray := [⟨#[]⟩, ⟨#[110]⟩, ⟨#[32, 109, 32]⟩]
def td5L : List ByteArray := [⟨#[]⟩, ⟨#[103, 111]⟩]
theorem small6 : (∀ s ∈ tx5L, s.size ≤ 4) ∧ (∀ s ∈ nt5L, s.size ≤ 4) ∧ ∀ s ∈ td5L, s.size ≤ 4 := by
  refine ⟨?_, ?_, ?_⟩
  · intro s hs
    simp only [tx5L, List.mem_cons, List.mem_nil_iff, or_false] at hs
    rcases hs with rfl | rfl | rfl | rfl | rfl | rfl <;> decide
  · intro s hs
    simp only [nt5L, List.mem_cons, List.mem_nil_iff, or_false] at hs
    rcases hs with rfl | rfl | rfl <;> decide
  · intro s hs
    simp only [td5L, List.mem_cons, List.mem_nil_iff, or_false] at hs
    rcases hs with rfl | rfl <;> decide
theorem tx5_list (w : World) (q cb len cap : Nat) (a : Option Addr) (hq : q = w.heap.size) (hc : CurAt w cb a len cap) :
    Calls Try.prog 88 #[.pointer (some ⟨cb, 0, none⟩), .slice (some ⟨q, 0, none⟩) 6 6] (w.alloc (.cells #[.string ⟨#[120]⟩, .string ⟨#[121]⟩, .string ⟨#[32]⟩, .string ⟨#[10, 32, 32]⟩, .string ⟨#[49]⟩, .string ⟨#[226, 130, 172, 60]⟩] 9)) fun e w' => ∃ s, s ∈ tx5L ∧ e = .returned (.string s) ∧ CurAt w' cb a len cap ∧ ButFor cb w w' := by
  subst hq
  exact str_new w cb len cap 6 6 a tx5L _ 9 rfl rfl (by decide) (by decide) hc
theorem nt5_list (w : World) (q cb len cap : Nat) (a : Option Addr) (hq : q = w.heap.size) (hc : CurAt w cb a len cap) :
    Calls Try.prog 88 #[.pointer (some ⟨cb, 0, none⟩), .slice (some ⟨q, 0, none⟩) 3 3] (w.alloc (.cells #[.string ⟨#[]⟩, .string ⟨#[110]⟩, .string ⟨#[32, 109, 32]⟩] 9)) fun e w' => ∃ s, s ∈ nt5L ∧ e = .returned (.string s) ∧ CurAt w' cb a len cap ∧ ButFor cb w w' := by
  subst hq
  exact str_new w cb len cap 3 3 a nt5L _ 9 rfl rfl (by decide) (by decide) hc
theorem td5_list (w : World) (q cb len cap : Nat) (a : Option Addr) (hq : q = w.heap.size) (hc : CurAt w cb a len cap) :
    Calls Try.prog 88 #[.pointer (some ⟨cb, 0, none⟩), .slice (some ⟨q, 0, none⟩) 2 2] (w.alloc (.cells #[.string ⟨#[]⟩, .string ⟨#[103, 111]⟩] 9)) fun e w' => ∃ s, s ∈ td5L ∧ e = .returned (.string s) ∧ CurAt w' cb a len cap ∧ ButFor cb w w' := by
  subst hq
  exact str_new w cb len cap 2 2 a td5L _ 9 rfl rfl (by decide) (by decide) hc
set_option maxRecDepth 100000 in
set_option maxHeartbeats 1000000 in
theorem l5val (w : World) (cb len cap : Nat) (a : Option Addr) (HC : Hid (CurAt w cb a len cap)) : Calls Try.prog 101 #[.pointer (some ⟨cb, 0, none⟩)] w fun e w' => ∃ s : ByteArray, e = .returned (.string s) ∧ s.size ≤ 4 ∧ CurAt w' cb a len cap ∧ ButFor cb w w' := by
  go_enter Try.func101, Try.ntmps101
  go_wp2_with fail
  refine (val5_list _ _ _ _ _ _ (by simp) HC.out).mono ?_
  rintro e w1 ⟨s, hs, rfl, hc1, hb1⟩
  have hsz := small5.2.2.2.2 s hs
  have HC1 : Hid _ := hc1
  have HB1 : Hid _ := hb1
  clear hc1 hb1 hs
  go_wp2
  go_ret
  exact ⟨s, rfl, hsz, HC1.out, HB1.out⟩
theorem space_fine {L : List Pair} {pre x : ByteArray} {ok : Bool} (hf : Fine L) (h : scopes.spaceR L pre = (x, ok)) : x.size ≤ 700 := by
  unfold scopes.spaceR at h
  cases hl : scopes.lastTo L pre L.length with
  | none => rw [hl] at h; simp only [Prod.mk.injEq] at h; rw [← h.1]; decide
  | some i =>
    rw [hl] at h
    simp only [Prod.mk.injEq] at h
    rw [← h.1]
    by_cases hi : i < L.length
    · exact (hf i hi).2
    · have : at0 L i = (⟨#[]⟩, ⟨#[]⟩) := by unfold at0; rw [List.getD_eq_getElem?_getD, List.getElem?_eq_none (by omega)]; rfl
      rw [this]; decide
theorem _root_.Go.Proofs.Ytpejcblmglbjfaa.trees.Out.setFar {cb mb ab i j : Nat} {u v : Value} {w W : World} (h : Out (Fm cb mb) w W) (hab : w.heap.size ≤ ab) : Out (Fm cb mb) w ((W.setCell ⟨ab, i, none⟩ u).setCell ⟨ab, j, none⟩ v) :=
  ⟨h.os, h.tape, h.output, by rw [trees.size_setCell, trees.size_setCell]; exact h.size, fun k hk hf => (Below.heap_setCell _ ⟨ab, j, none⟩ _ k (by show k ≠ ab; omega)).trans ((Below.heap_setCell _ ⟨ab, i, none⟩ _ k (by show k ≠ ab; omega)).trans (h.block k hk hf))⟩
theorem AttV.row_of {w : World} {B g n c : Nat} {L : List Att} (h : RowA w B g n c L) (hf : ∀ x ∈ L, x.size ≤ 720) : AttV w B (.slice (some ⟨g, 0, none⟩) n c) L := by
  have := h.len
  subst this
  exact ⟨.inr ⟨g, c, rfl, h⟩, hf⟩
theorem leaf_sz (k : Int) (l x : ByteArray) : nsz (.mk k ⟨#[]⟩ l ⟨#[]⟩ x [] [] []) = l.size + x.size := by
  rw [nsz]
  simp [trees.nszs, pairs.sizeTo, trees.smallA, trees.asizeTo]
  show 0 + l.size + 0 = l.size
  omega
theorem sz_kid {P : List TH} {x : TH} {m m2 m' : Nat} (h : nszs (trees1 P) ≤ 8000 * (m - (m2 + 1))) (h1 : m2 + 1 ≤ m) (h2 : m' ≤ m2) (hx : nsz x.1 + 1 ≤ 8000 * (m2 - m' + 1)) : nszs (trees1 (P ++ [x])) ≤ 8000 * (m - m') := by
  rw [trees.trees1_append, trees.trees1_one, trees.nszs_append, trees.nszs_one]
  omega
theorem cells_new (w : World) (t : Tree) (h : Hdr) (ty : TypeId) : ∀ j u, (vals t h).toList[j]? = some u → (w.alloc (.cells (vals t h) ty)).cell? ⟨w.heap.size, j, none⟩ = some u := fun j u e => pairs.cell_new w _ _ j u (by rw [← Array.getElem?_toList]; exact e)
theorem cells_new_at (w : World) (t : Tree) (h : Hdr) (ty : TypeId) (q : Nat) (hq : q = w.heap.size) : ∀ j u, (vals t h).toList[j]? = some u → (w.alloc (.cells (vals t h) ty)).cell? ⟨q, j, none⟩ = some u := by subst hq; exact cells_new w t h ty
theorem KidR.rowOf {w : World} {B n kc : Nat} {ka : Option Addr} {P : List TH} {G : Nat → Bset} (h : KidR w B (.slice ka n kc) P G) : OwnL w ka (trees1 P) (fun b => B ≤ b ∧ b < w.heap.size) := by
  obtain ⟨a, c, e, hr⟩ := h.row
  cases e
  exact hr
/-- What l5El answers: an element, all of it new; and how many may be drawn behind it. -/
def ElOk (w : World) (cb mb len cap : Nat) (a : Option Addr) (ia : Option Addr) (IN : List Pair) (ic m : Nat) : Prop :=
  Calls Try.prog 80 #[.pointer (some ⟨cb, 0, none⟩), .slice ia IN.length ic, .pointer (some ⟨mb, 0, none⟩)] w fun e w' => ∃ (t : Tree) (h : Hdr) (m' : Nat), e = .returned (.agg (vals t h)) ∧ OwnN w' t h (Rng w w') ∧ t.kind = 1 ∧ m' ≤ m ∧ nsz t + 1 ≤ 8000 * (m - m' + 1) ∧ Cx w' cb mb len cap a m' ∧ Out (Fm cb mb) w w' ∧ ElParts (Rng w w') w' t h
/-- Decls from outside, that no draw turns. -/
structure InAt (w : World) (cb mb : Nat) (ia : Option Addr) (IN : List Pair) : Prop where
  row : PairsAt w ia IN
  fine : Fine IN
  apart : ∀ b off, ia = some ⟨b, off, none⟩ → b ≠ cb ∧ b ≠ mb
theorem InAt.out {w w' : World} {cb mb : Nat} {ia : Option Addr} {IN : List Pair} (h : InAt w cb mb ia IN) (ho : Out (Fm cb mb) w w') : InAt w' cb mb ia IN := ⟨trees.pairs_keep h.row ho.size (fun b off e hb => ho.block b hb (fun hf => by obtain ⟨h1, h2⟩ := h.apart b off e; rcases hf with e | e <;> contradiction)), h.fine, h.apart⟩
theorem InAt.far {w w' : World} {cb mb : Nat} {ia : Option Addr} {IN : List Pair} {B : Nat} (h : InAt w cb mb ia IN) (hB : ∀ b off, ia = some ⟨b, off, none⟩ → b < w.heap.size → b < B) (hs : w.heap.size ≤ w'.heap.size) (hk : ∀ k, k < B → w'.heap[k]? = w.heap[k]?) : InAt w' cb mb ia IN := ⟨trees.pairs_keep h.row hs (fun b off e hb => hk b (hB b off e hb)), h.fine, h.apart⟩
set_option maxRecDepth 100000 in
set_option maxHeartbeats 16000000 in
theorem el_of (m : Nat) (ih : ∀ (m1 : Nat), m1 < m → ∀ (w : World) (cb mb len cap : Nat) (a ia : Option Addr) (IN : List Pair) (ic : Nat), IN.length + 3 * (m1 + 1) ≤ 3000000 → Cx w cb mb len cap a m1 → InAt w cb mb ia IN → ElOk w cb mb len cap a ia IN ic m1)
    (w : World) (cb mb len cap : Nat) (a ia : Option Addr) (IN : List Pair) (ic : Nat) (hl : IN.length + 3 * (m + 1) ≤ 3000000) (hm : m ≤ 100) (HX : Hid (Cx w cb mb len cap a m)) (HI : Hid (InAt w cb mb ia IN)) : ElOk w cb mb len cap a ia IN ic m := by
  have HIH : Hid _ := ih
  clear ih
  unfold ElOk
  have hcl : cb < w.heap.size ∧ mb < w.heap.size := HX.out.lt
  obtain ⟨hcb, hmb⟩ := hcl
  have HA : Hid (∀ o, CurAt (w.alloc o) cb a len cap) := fun o => HX.out.cur.alloc o
  go_enter Try.func80, Try.ntmps80
  go_wp2_with fail
  refine (loc5_list _ _ _ _ _ _ (by simp) (HA.out _)).mono ?_
  rintro e w1 ⟨lo, hlo, rfl, hc1, hb1⟩
  have hloz := small5.1 lo hlo
  have HX1 : Hid (Cx w1 cb mb len cap a m) := (HX.out.below ((Below.refl _ _).alloc (Nat.le_refl _) _)).but hc1 hb1
  have HU1 : Hid (Out (Fm cb mb) w w1) := (Out.of_below ((Below.refl _ _).alloc (Nat.le_refl _) _)).trans (out_but hb1)
  have HRB : Hid (w1.heap[w.heap.size]? = _) := (hb1.block w.heap.size (by simp) (by omega)).trans (heap_alloc_new w (.cells #[.int .i64 0, .string ⟨#[]⟩, .string ⟨#[]⟩, .string ⟨#[]⟩, .slice none 0 0, .slice none 0 0, .slice none 0 0, .string ⟨#[]⟩] 28))
  have HSZ : Hid (w.heap.size < w1.heap.size) := pairs.lt_heap HRB.out
  have HP2 : Hid (Ph w (w1.alloc (.cells #[.int .i64 1, .string ⟨#[]⟩, .string lo, .string ⟨#[]⟩, .slice none 0 0, .slice none 0 0, .slice none 0 0, .string ⟨#[]⟩] 28)) cb mb len cap a m w1.heap.size #[.int .i64 1, .string ⟨#[]⟩, .string lo, .string ⟨#[]⟩, .slice none 0 0, .slice none 0 0, .slice none 0 0, .string ⟨#[]⟩]) :=
    ⟨⟨m, HX.out⟩, HX1.out.below ((Below.refl _ _).alloc (Nat.le_refl _) _), (Below.heap_alloc w1 _ _ HSZ.out).trans HRB.out, heap_alloc_new w1 _, HU1.out.trans (Out.of_below ((Below.refl _ _).alloc (Nat.le_refl _) _)), HSZ.out⟩
  clear hc1 hb1 hlo
  obtain ⟨nb, hnb⟩ : ∃ nb, w1.heap.size = nb := ⟨_, rfl⟩
  go_wp2_with fail
  refine (once_any _ cb len cap a 4 (by decide) HP2.out.cx.cur).mono ?_
  rintro e w3 ⟨b, rfl, hc3, hb3⟩
  have HP3 : Hid (Ph w w3 cb mb len cap a m nb #[.int .i64 1, .string ⟨#[]⟩, .string lo, .string ⟨#[]⟩, .slice none 0 0, .slice none 0 0, .slice none 0 0, .string ⟨#[]⟩]) := hnb ▸ HP2.out.but hc3 hb3
  clear hc3 hb3 hnb HP2 HX1 HU1 HRB HSZ
  go_upto_if 23 with fail
  go_cut [7] from 18 to 26 (fun s7 wc => ∃ (ga : Option Addr) (DS : List Pair) (c : Nat), s7 = .pointer (some ⟨nb, 0, none⟩) ∧ DS.length ≤ 3 ∧ Hid (Fine DS) ∧ Hid (OwnP wc ga DS (fun g => nb < g ∧ g < wc.heap.size)) ∧ Hid (Ph w wc cb mb len cap a m nb #[.int .i64 1, .string ⟨#[]⟩, .string lo, .string ⟨#[]⟩, .slice ga DS.length c, .slice none 0 0, .slice none 0 0, .string ⟨#[]⟩]))
  case first =>
    cases b
    · go_wp2
      go_meet
      case rel => exact ⟨none, [], 0, rfl, by decide, fun i hi => absurd hi (by simp), fun h => absurd h (by simp), HP3.out⟩
    · go_wp2_with fail
      refine (l4draw _ cb len cap a HP3.out.cx.cur).mono ?_
      rintro e w4 ⟨v, rfl, DS, hd, hdl, hv⟩
      obtain ⟨g, c, rfl⟩ := hd.shape hv
      have HP4 : Hid (Ph w w4 cb mb len cap a m nb _) := HP3.out.but hd.cur hd.but
      have HM4 : Hid (pairs.Made w4 g DS DS.length ∧ w3.heap.size ≤ g) := by
        obtain ⟨g', c', e1, e2, e3⟩ := pairs.OwnP.made hd.own hv
        cases e1
        exact ⟨e3, e2⟩
      have HFN : Hid (Fine DS) := hd.fine
      have HNB : Hid (nb < w3.heap.size) := pairs.lt_heap HP3.out.box
      obtain ⟨n0, n1, n2, n3, n4, n5, n6, n7⟩ := box8 HP4.out.box
      obtain ⟨f0, f1, f2, f3, f4, f5, f6, f7⟩ := box_froz HP4.out.box
      have HP5 : Hid (Ph w (w4.setCell ⟨nb, 4, none⟩ (.slice (some ⟨g, 0, none⟩) DS.length c)) cb mb len cap a m nb _) := HP4.out.set 4 (.slice (some ⟨g, 0, none⟩) DS.length c)
      clear hd
      go_wp2
      go_meet
      case rel => exact ⟨some ⟨g, 0, none⟩, DS, c, rfl, hdl, HFN.out, fun _ => ⟨g, rfl, ⟨by have := HNB.out; have := HM4.out.2; omega, by rw [trees.size_setCell]; exact HM4.out.1.lt⟩, trees.made_set HM4.out.1 (by have := HNB.out; have := HM4.out.2; omega)⟩, HP5.out⟩
  case rest =>
    obtain ⟨ga, DS, c, rfl, hdl, HFN, HOW, HP⟩ := hcut
    have HNB : Hid ((cb < nb ∧ mb < nb) ∧ w.heap.size < nb ∧ nb < wc.heap.size) := by have := HP.out.lts; have := HP.out.gt; exact ⟨⟨by omega, by omega⟩, by omega, by omega⟩
    have HDA : Hid (PairsAt wc ga DS) := trees.OwnP.at HOW.out ⟨by unfold maxLen; omega, fun i hi => by have := HFN.out i hi; unfold maxLen; omega⟩
    have HIN : Hid (InAt wc cb mb ia IN) := HI.out.out HP.out.out
    obtain ⟨n0, n1, n2, n3, n4, n5, n6, n7⟩ := box8 HP.out.box
    go_wp2_with fail
    refine (scopes.spec_inner _ _ _ _ _ _ _ HIN.out.row HDA.out (by omega)).mono ?_
    rintro e w4 ⟨⟨v, rfl, hov, hvn⟩, hb⟩
    obtain ⟨g4, c4, rfl, hg4, hm4⟩ := pairs.OwnP.made hov hvn
    have HP4 : Hid (Ph w w4 cb mb len cap a m nb _) := HP.out.below hb
    have HAF : Hid (Fine (IN ++ DS)) := HI.out.fine.add HFN.out
    have HAL : Hid (PairsAt w4 (some ⟨g4, 0, none⟩) (IN ++ DS)) := hm4.pairs (by rw [List.length_append]; unfold maxLen; omega) (fun i hi => by have := HAF.out i hi; unfold maxLen; omega)
    have HG4 : Hid (wc.heap.size ≤ g4 ∧ g4 < w4.heap.size) := ⟨hg4, hm4.lt⟩
    have HOW4 : Hid (OwnP w4 ga DS (fun g => nb < g ∧ g < w4.heap.size)) := trees.OwnP.sub (trees.OwnP.out (G := fun _ => False) HOW.out (Out.of_below hb) (fun _ _ h => h)) (fun g hg => ⟨hg.1, Nat.lt_of_lt_of_le hg.2 hb.size⟩)
    have hlen : (IN ++ DS).length = IN.length + DS.length := List.length_append
    obtain ⟨AL, hAL⟩ : ∃ AL, IN ++ DS = AL := ⟨_, rfl⟩
    rw [hAL] at HAF HAL hlen
    rw [hAL]
    have HLL : Hid (AL.length ≤ IN.length + 3) := by show _ ≤ _; omega
    clear hb hov hvn hg4 hm4 n0 n1 n2 n3 n4 n5 n6 n7 hAL hlen
    go_wp2_with fail
    refine (once_any _ cb len cap a 4 (by decide) HP4.out.cx.cur).mono ?_
    rintro e w5 ⟨b2, rfl, hc5, hb5⟩
    have HP5 : Hid (Ph w w5 cb mb len cap a m nb _) := HP4.out.but hc5 hb5
    have HF5 : Hid (Fr cb mb nb w4.heap.size w4 w5) := (Fr.refl _ _ _ _ _).out (Nat.le_refl _) (out_but hb5)
    clear hc5 hb5
    go_upto_if 32 with fail
    go_cut [7] from 18 to 36 (fun s7 wx => ∃ (pr : ByteArray), s7 = .pointer (some ⟨nb, 0, none⟩) ∧ pr.size ≤ 4 ∧ Hid (Ph w wx cb mb len cap a m nb #[.int .i64 1, .string pr, .string lo, .string ⟨#[]⟩, .slice ga DS.length c, .slice none 0 0, .slice none 0 0, .string ⟨#[]⟩]) ∧ Hid (Fr cb mb nb w4.heap.size w4 wx))
    case first =>
      cases b2
      · go_wp2
        go_meet
        case rel => exact ⟨⟨#[]⟩, rfl, by decide, HP5.out, HF5.out⟩
      · go_wp2_with fail
        refine (pre5_list _ _ _ _ _ _ (by simp) HP5.out.cx.cur).mono ?_
        rintro e w6 ⟨pr, hpr, rfl, hc6, hb6⟩
        have hprz := small5.2.1 pr hpr
        have HP6 : Hid (Ph w w6 cb mb len cap a m nb _) := HP5.out.but hc6 hb6
        have HF6 : Hid (Fr cb mb nb w4.heap.size w4 w6) := HF5.out.out (Nat.le_refl _) (out_but hb6)
        obtain ⟨n0, n1, n2, n3, n4, n5, n6, n7⟩ := box8 HP6.out.box
        obtain ⟨f0, f1, f2, f3, f4, f5, f6, f7⟩ := box_froz HP6.out.box
        have HP7 : Hid (Ph w (w6.setCell ⟨nb, 1, none⟩ (.string pr)) cb mb len cap a m nb _) := HP6.out.set 1 (.string pr)
        have HF7 : Hid (Fr cb mb nb w4.heap.size w4 (w6.setCell ⟨nb, 1, none⟩ (.string pr))) := HF6.out.set 1 _
        clear hc6 hb6 hpr
        go_wp2
        go_meet
        case rel => exact ⟨pr, rfl, hprz, HP7.out, HF7.out⟩
    case rest =>
      obtain ⟨pr, rfl, hpr, HP8, HF8⟩ := hcut
      have HAL8 : Hid (PairsAt wc (some ⟨g4, 0, none⟩) AL) := HF8.out.pairs (by have := HNB.out; omega) (by have := HNB.out; omega) HAL.out (fun b off e => by cases e; have := HG4.out; have := HNB.out; omega)
      obtain ⟨n0, n1, n2, n3, n4, n5, n6, n7⟩ := box8 HP8.out.box
      obtain ⟨f0, f1, f2, f3, f4, f5, f6, f7⟩ := box_froz HP8.out.box
      obtain ⟨u, ok, hu⟩ : ∃ u ok, scopes.spaceR AL pr = (u, ok) := ⟨_, _, rfl⟩
      have huz := space_fine HAF.out hu
      go_wp2_with fail
      refine (scopes.spec_spaceH AL pr u ok hu _ _ _ HAL8.out).mono ?_
      rintro e w9 ⟨rfl, hw⟩
      subst hw
      clear hu
      go_upto_if 45 with fail
      clear n0 n1 n2 n3 n4 n5 n6 n7 f0 f1 f2 f3 f4 f5 f6 f7
      go_cut [9] from 18 to 51 (fun s9 wx => ∃ (pr u : ByteArray), s9 = .string u ∧ u.size ≤ 700 ∧ pr.size ≤ 4 ∧ Hid (Ph w wx cb mb len cap a m nb #[.int .i64 1, .string pr, .string lo, .string ⟨#[]⟩, .slice ga DS.length c, .slice none 0 0, .slice none 0 0, .string ⟨#[]⟩]) ∧ Hid (Fr cb mb nb w4.heap.size w4 wx))
      case first =>
        cases ok
        · obtain ⟨n0, n1, n2, n3, n4, n5, n6, n7⟩ := box8 HP8.out.box
          obtain ⟨f0, f1, f2, f3, f4, f5, f6, f7⟩ := box_froz HP8.out.box
          have HP9 : Hid (Ph w (w9.setCell ⟨nb, 1, none⟩ (.string ⟨#[]⟩)) cb mb len cap a m nb _) := HP8.out.set 1 (.string ⟨#[]⟩)
          have HF9 : Hid (Fr cb mb nb w4.heap.size w4 (w9.setCell ⟨nb, 1, none⟩ (.string ⟨#[]⟩))) := HF8.out.set 1 _
          have HAL9 : Hid (PairsAt (w9.setCell ⟨nb, 1, none⟩ (.string ⟨#[]⟩)) (some ⟨g4, 0, none⟩) AL) := HF9.out.pairs (by have := HNB.out; omega) (by have := HNB.out; omega) HAL.out (fun b off e => by cases e; have := HG4.out; have := HNB.out; omega)
          obtain ⟨u2, ok2, hu2⟩ : ∃ u ok, scopes.spaceR AL ⟨#[]⟩ = (u, ok) := ⟨_, _, rfl⟩
          have huz2 := space_fine HAF.out hu2
          go_wp2_with fail
          refine (scopes.spec_spaceH AL ⟨#[]⟩ u2 ok2 hu2 _ _ _ HAL9.out).mono ?_
          rintro e w10 ⟨rfl, hw⟩
          subst hw
          clear hu2
          go_wp2
          go_meet
          case rel => exact ⟨⟨#[]⟩, u2, rfl, huz2, by decide, HP9.out, HF9.out⟩
        · go_wp2
          go_meet
          case rel => exact ⟨pr, u, rfl, huz, hpr, HP8.out, HF8.out⟩
      case rest =>
        clear HP8 HF8 HAL8 huz hpr
        obtain ⟨pr, u, rfl, huz, hpr, HP10, HF10⟩ := hcut
        obtain ⟨n0, n1, n2, n3, n4, n5, n6, n7⟩ := box8 HP10.out.box
        obtain ⟨f0, f1, f2, f3, f4, f5, f6, f7⟩ := box_froz HP10.out.box
        have HP11 : Hid (Ph w (wc.setCell ⟨nb, 3, none⟩ (.string u)) cb mb len cap a m nb _) := HP10.out.set 3 (.string u)
        have HF11 : Hid (Fr cb mb nb w4.heap.size w4 (wc.setCell ⟨nb, 3, none⟩ (.string u))) := HF10.out.set 3 _
        go_wp2_with fail
        refine (below_any _ cb len cap a 3 (by decide) HP11.out.cx.cur).mono ?_
        rintro e W1 ⟨x, rfl, hx0, hx1, hc12, hb12⟩
        have HP12 : Hid (Ph w W1 cb mb len cap a m nb #[.int .i64 1, .string pr, .string lo, .string u, .slice ga DS.length c, .slice none 0 0, .slice none 0 0, .string ⟨#[]⟩]) := HP11.out.but hc12 hb12
        have HF12 : Hid (Fr cb mb nb w4.heap.size w4 W1) := HF11.out.out (Nat.le_refl _) (out_but hb12)
        have HNC : Hid (cb < nb ∧ mb < nb ∧ w.heap.size < nb ∧ nb < W1.heap.size) := by have := HNB.out; have := HP12.out.lts; exact ⟨by omega, by omega, by omega, by omega⟩
        have HOW1 : Hid (OwnP W1 ga DS (fun g => nb < g ∧ g < W1.heap.size)) := trees.OwnP.sub (HF12.out.own HNC.out.1 HNC.out.2.1 HOW4.out) (fun g hg => ⟨hg.1, Nat.lt_of_lt_of_le hg.2 HF12.out.size⟩)
        have HAL1 : Hid (PairsAt W1 (some ⟨g4, 0, none⟩) AL) := HF12.out.pairs HNC.out.1 HNC.out.2.1 HAL.out (fun b off e => by cases e; have := HG4.out; have := HNB.out; omega)
        have HG1 : Hid (nb < g4 ∧ g4 < W1.heap.size) := by have := HG4.out; have := HNB.out; have := HF12.out.size; exact ⟨by omega, by omega⟩
        clear hc12 hb12 n0 n1 n2 n3 n4 n5 n6 n7 f0 f1 f2 f3 f4 f5 f6 f7 HP11 HF11 HP10 HF10 HF12 HP5 HF5 HP4 HOW4 HAL HG4 HNB HP HOW HDA HIN HP3
        have HAV1 : Hid (AttV W1 W1.heap.size (.slice none 0 0) []) := AttV.nil _ _
        have HFR1 : Hid (Fr cb mb nb W1.heap.size W1 W1) := Fr.refl _ _ _ _ _
        have HLU : Hid (lo.size ≤ 4 ∧ pr.size ≤ 4 ∧ u.size ≤ 700) := ⟨hloz, hpr, huz⟩
        clear hloz hpr huz
        go_wp2
        go_loopw [11] (fun q wr => ∃ (i : Int) (av : Value) (L : List Att), 0 ≤ i ∧ i ≤ 2 ∧ (L.length : Int) + i ≤ 2 ∧ q = .int .i64 i ∧ Hid (L = [] → av = .slice none 0 0) ∧ Hid (AttV wr W1.heap.size av L) ∧ Hid (Ph w wr cb mb len cap a m nb #[.int .i64 1, .string pr, .string lo, .string u, .slice ga DS.length c, av, .slice none 0 0, .string ⟨#[]⟩]) ∧ Hid (Fr cb mb nb W1.heap.size W1 wr)) (fun q _ => (intOf q).toNat)
        case atStart => exact ⟨x, _, [], hx0, by omega, by simp; omega, rfl, fun _ => rfl, HAV1, HP12, HFR1⟩
        case round =>
          obtain ⟨i, av, L, hi0, hi2, hLi, rfl, HNL, hav, hph, hfr⟩ := hrel
          by_cases hgo : 0 < i
          · have HGR : Hid (nb < wr.heap.size ∧ W1.heap.size ≤ wr.heap.size) := ⟨hph.out.lts.2.2, hfr.out.size⟩
            go_wp2_with fail
            refine (at5_list _ _ _ _ _ _ (by simp) hph.out.cx.cur).mono ?_
            rintro e w2 ⟨la, hla, rfl, hc2, hb2⟩
            have hlaz := small5.2.2.1 la hla
            have HC2 : Hid (Cx w2 cb mb len cap a m) := hph.out.cx.but hc2 hb2
            have HO2 : Hid (Out (Fm cb mb) wr w2) := out_but hb2
            clear hc2 hb2 hla
            go_wp2_with fail
            refine (l5val _ cb len cap a HC2.out.cur).mono ?_
            rintro e w3 ⟨va, rfl, hvaz, hc3, hb3⟩
            have HC3 : Hid (Cx w3 cb mb len cap a m) := HC2.out.but hc3 hb3
            have HO3 : Hid (Out (Fm cb mb) wr w3) := HO2.out.trans (out_but hb3)
            clear hc3 hb3 HC2 HO2
            obtain ⟨ab, hab⟩ : ∃ ab, w3.heap.size = ab := ⟨_, rfl⟩
            have HB4 : Hid (∀ o, Below w3.heap.size w3 (w3.alloc o)) := fun o => (Below.refl _ _).alloc (Nat.le_refl _) o
            have HX4 : Hid (∀ o, (w3.alloc o).heap[ab]? = some o) := fun o => hab ▸ heap_alloc_new w3 o
            have HAB : Hid (wr.heap.size ≤ ab) := hab ▸ HO3.out.size
            go_wp2_with fail
            refine (ap5_list _ _ _ _ _ _ (by simp [hab]) (HC3.out.cur.stays (Nat.le_refl _) (HB4.out _))).mono ?_
            rintro e w5 ⟨pa, hpa, rfl, hc5, hb5⟩
            have hpaz := small5.2.2.2.1 pa hpa
            have HC5 : Hid (Cx w5 cb mb len cap a m) := (HC3.out.below (HB4.out _)).but hc5 hb5
            have HO5 : Hid (Out (Fm cb mb) wr w5) := (HO3.out.trans (Out.of_below (HB4.out _))).trans (out_but hb5)
            have HX5 : Hid (w5.heap[ab]? = some (.cells #[.string ⟨#[]⟩, .string la, .string ⟨#[]⟩, .string va] 87 (0, 0))) := (hb5.block ab (by rw [← hab]; simp) (by have := HNC.out; have := HAB.out; have := HGR.out; omega)).trans (HX4.out _)
            have HPH5 : Hid (Ph w w5 cb mb len cap a m nb #[.int .i64 1, .string pr, .string lo, .string u, .slice ga DS.length c, av, .slice none 0 0, .string ⟨#[]⟩]) := hph.out.turn HC5.out HO5.out
            have HFR5 : Hid (Fr cb mb nb W1.heap.size W1 w5) := hfr.out.out (Nat.le_refl _) HO5.out
            have HAL5 : Hid (PairsAt w5 (some ⟨g4, 0, none⟩) AL) := HFR5.out.pairs HNC.out.1 HNC.out.2.1 HAL1.out (fun b off e => by cases e; exact HG1.out)
            obtain ⟨xu, oku, hxu⟩ : ∃ u ok, scopes.spaceR AL pa = (u, ok) := ⟨_, _, rfl⟩
            have hxuz := space_fine HAF.out hxu
            clear hc5 hb5 hpa hab HC3 HO3 HB4 HX4
            go_wp2_with fail
            refine (scopes.spec_spaceH AL pa xu oku hxu _ _ _ HAL5.out).mono ?_
            rintro e w6 ⟨rfl, hw⟩
            have hw' := hw.symm
            clear hw hxu
            subst hw'
            go_upto_region 18 with fail
            go_cut [79] from 56 to 78 (fun s79 wx => ∃ bq : Bool, s79 = .bool bq ∧ Hid (wx = w5))
            case first =>
              cases hpe : pa.toList.isEmpty
              · cases oku
                · go_wp2
                  go_meet
                  case rel => exact ⟨_, rfl, rfl⟩
                · go_wp2
                  go_meet
                  case rel => exact ⟨_, rfl, rfl⟩
              · go_wp2
                go_meet
                case rel => exact ⟨_, rfl, rfl⟩
            case rest =>
              obtain ⟨bq, rfl, hwx⟩ := hcut
              have hwx' : wc = w5 := hwx
              subst hwx'
              go_upto_if 79 with fail
              go_cut [7] from 56 to 83 (fun s7 wx => ∃ xa : Att, s7 = .pointer (some ⟨nb, 0, none⟩) ∧ xa.size ≤ 720 ∧ Hid (wx.heap[ab]? = some (.cells #[.string xa.pre, .string xa.loc, .string xa.uri, .string xa.val] 87 (0, 0))) ∧ Hid (Cx wx cb mb len cap a m) ∧ Hid (Out (Fm cb mb) wr wx))
              case first =>
                cases bq
                · go_wp2
                  go_meet
                  case rel => exact ⟨⟨⟨#[]⟩, la, ⟨#[]⟩, va⟩, rfl, by unfold Att.size; simp only; have : (⟨#[]⟩ : ByteArray).size = 0 := rfl; omega, HX5.out, HC5.out, HO5.out⟩
                · obtain ⟨⟨o0, o1, o2, o3⟩, q0, q2⟩ := box4 HX5.out
                  go_wp2
                  go_meet
                  case rel => exact ⟨⟨pa, la, xu, va⟩, rfl, by unfold Att.size; simp only; omega, by show _ = _; rw [pairs.block_set _ (pairs.block_set _ HX5.out)]; rfl, HX.out.far HC5.out (by rw [trees.size_setCell, trees.size_setCell]; exact Nat.le_refl _) (fun k hk => (Below.heap_setCell _ ⟨ab, 2, none⟩ _ k (by show k ≠ ab; have := HNC.out; have := HAB.out; have := HGR.out; omega)).trans (Below.heap_setCell _ ⟨ab, 0, none⟩ _ k (by show k ≠ ab; have := HNC.out; have := HAB.out; have := HGR.out; omega))), HO5.out.setFar HAB.out⟩
              case rest =>
                obtain ⟨xa, rfl, hxa, HX6, HC6, HO6⟩ := hcut
                have HAV6 : Hid (AttV wc W1.heap.size av L) := hav.out.out HO6.out (fun b hb => by have := HNC.out; rcases hb with e | e <;> omega)
                have HPH6 : Hid (Ph w wc cb mb len cap a m nb #[.int .i64 1, .string pr, .string lo, .string u, .slice ga DS.length c, av, .slice none 0 0, .string ⟨#[]⟩]) := hph.out.turn HC6.out HO6.out
                have HFR6 : Hid (Fr cb mb nb W1.heap.size W1 wc) := hfr.out.out (Nat.le_refl _) HO6.out
                have HAB2 : Hid (nb < ab ∧ W1.heap.size ≤ ab ∧ ab < wc.heap.size) := by have := HAB.out; have := HGR.out; have := pairs.lt_heap HX6.out; exact ⟨by omega, by omega, by omega⟩
                clear HX5 HC5 HO5 HPH5 HFR5 HAL5 hxuz hpaz hlaz hvaz HAB HGR hav hph hfr HC6 HO6 HX HI HA
                have hnn : ∀ w', Below wc.heap.size wc w' → w'.cell? ⟨nb, 5, none⟩ = some av := fun w' hb => (trees.cell_keep (hb.block nb (pairs.lt_heap HPH6.out.box))).trans (box8 HPH6.out.box).2.2.2.2.2.1
                have hxx : ∀ w', Below wc.heap.size wc w' → (w'.cell? ⟨ab, 0, none⟩ = some (.string xa.pre) ∧ w'.cell? ⟨ab, 1, none⟩ = some (.string xa.loc) ∧ w'.cell? ⟨ab, 2, none⟩ = some (.string xa.uri) ∧ w'.cell? ⟨ab, 3, none⟩ = some (.string xa.val)) := fun w' hb => (box4 ((hb.block ab (pairs.lt_heap HX6.out)).trans HX6.out)).1
                obtain hL | ⟨k, hk⟩ : L = [] ∨ ∃ k, L.length = k + 1 := by cases L with | nil => exact .inl rfl | cons x r => exact .inr ⟨r.length, rfl⟩
                · subst hL
                  obtain rfl : av = .slice none 0 0 := HNL.out rfl
                  go_upto_region 21 with fail
                  refine quiets.wp_region_below (by kernel_rfl) (by kernel_rfl) ?_
                  repeat (go_big_quiet_step ((first | (intro hq; rfl) | (intro hq; simp [go_sem, hnn _ hq]; rfl) )))
                  refine wpQuiet_nil ?_
                  intro w7 hb7
                  have HP7 : Hid (Ph w w7 cb mb len cap a m nb #[.int .i64 1, .string pr, .string lo, .string u, .slice ga DS.length c, .slice none 0 0, .slice none 0 0, .string ⟨#[]⟩]) := HPH6.out.below hb7
                  have HF7 : Hid (Fr cb mb nb W1.heap.size W1 w7) := HFR6.out.below (Nat.le_refl _) hb7
                  have HX7 : Hid (w7.heap[ab]? = some (.cells #[.string xa.pre, .string xa.loc, .string xa.uri, .string xa.val] 87 (0, 0))) := (hb7.block ab (pairs.lt_heap HX6.out)).trans HX6.out
                  clear hb7 hnn hxx
                  have HPA : Hid (∀ o, Ph w (w7.alloc o) cb mb len cap a m nb #[.int .i64 1, .string pr, .string lo, .string u, .slice ga DS.length c, .slice none 0 0, .slice none 0 0, .string ⟨#[]⟩]) := fun o => HP7.out.below ((Below.refl _ _).alloc (Nat.le_refl _) o)
                  have HFA : Hid (∀ o, Fr cb mb nb W1.heap.size W1 (w7.alloc o)) := fun o => HF7.out.below (Nat.le_refl _) ((Below.refl _ _).alloc (Nat.le_refl _) o)
                  have HBA : Hid (W1.heap.size ≤ w7.heap.size) := HF7.out.size
                  have HNB1 : Hid (nb < W1.heap.size) := HNC.out.2.2.2
                  obtain ⟨n0, n1, n2, n3, n4, n5, n6, n7⟩ := box8 HP7.out.box
                  obtain ⟨⟨o0, o1, o2, o3⟩, q0, q2⟩ := box4 HX7.out
                  go_wp2_with (at_builtin; refine add_att_nil W1.heap.size _ xa (by have := HBA.out; simp; omega) (by rfl) _ _ (by rfl) (by rfl) (by rfl) (by simp) ?_; rintro g' c' w8 hR8 hb8; have HP8 : Hid _ := (HPA.out _).below hb8; have HF8 : Hid _ := (HFA.out _).below (Nat.le_refl _) hb8; have HR8 : Hid _ := hR8; obtain ⟨n0, n1, n2, n3, n4, n5, n6, n7⟩ := box8 HP8.out.box; obtain ⟨f0, f1, f2, f3, f4, f5, f6, f7⟩ := box_froz HP8.out.box; clear hR8 hb8)
                  go_roundw
                  case rel => exact ⟨i - 1, .slice (some ⟨g', 0, none⟩) 1 c', [xa], by omega, by omega, by simp at hLi ⊢; omega, by go_num, fun e => absurd e (by simp), (AttV.row_of HR8.out (by intro x hx; rw [List.mem_singleton] at hx; subst hx; exact hxa)).set HNB1.out, HP8.out.set 5 _, HF8.out.set 5 _⟩
                  case measure => simp [intOf]; omega
                · obtain ⟨g5, c5, rfl, hra, hz0, hz1, hz2, hz3⟩ := HAV6.out.last hk
                  have HRA : Hid _ := hra
                  have hll : ∀ w', Below wc.heap.size wc w' → (w'.cell? ⟨g5, k * 4, none⟩ = some (.string (trees.att0 L k).pre) ∧ w'.cell? ⟨g5, k * 4 + 1, none⟩ = some (.string (trees.att0 L k).loc) ∧ w'.cell? ⟨g5, k * 4 + 2, none⟩ = some (.string (trees.att0 L k).uri) ∧ w'.cell? ⟨g5, k * 4 + 3, none⟩ = some (.string (trees.att0 L k).val)) := fun w' hb => by have e := hb.block g5 HRA.out.lt.2; exact ⟨(trees.cell_keep e).trans hz0, (trees.cell_keep e).trans hz1, (trees.cell_keep e).trans hz2, (trees.cell_keep e).trans hz3⟩
                  clear hra hz0 hz1 hz2 hz3
                  obtain ⟨y, hy⟩ : ∃ y, trees.att0 L k = y := ⟨_, rfl⟩
                  rw [hy] at hll
                  have hkz : ((k : Int) + 1 == 0) = false := by simp; omega
                  cases hls : lessA y xa
                  · have hD : ∀ w, Calls Try.prog 102 #[.agg #[.string y.pre, .string y.loc, .string y.uri, .string y.val], .agg #[.string xa.pre, .string xa.loc, .string xa.uri, .string xa.val]] w fun e w' => e = .returned (.bool false) ∧ Below w.heap.size w w' := fun w => by rw [← hls]; exact less_any y xa w
                    clear hls
                    go_upto_region 21 with fail
                    refine quiets.wp_region_below (by kernel_rfl) (by kernel_rfl) ?_
                    repeat (go_big_quiet_step ((first | (intro hq; rfl) | (intro hq; simp [go_sem, hnn _ hq]; rfl) | (intro hq; simp [go_sem, (hxx _ hq).1, (hxx _ hq).2.1, (hxx _ hq).2.2.1, (hxx _ hq).2.2.2]; rfl) | (intro hq; simp [go_sem, (hll _ hq).1, (hll _ hq).2.1, (hll _ hq).2.2.1, (hll _ hq).2.2.2]; rfl) | (intro hq; exact quiets.below_call (hD _) hq))))
                    refine wpQuiet_nil ?_
                    intro w7 hb7
                    have HP7 : Hid (Ph w w7 cb mb len cap a m nb #[.int .i64 1, .string pr, .string lo, .string u, .slice ga DS.length c, .slice (some ⟨g5, 0, none⟩) (k + 1) c5, .slice none 0 0, .string ⟨#[]⟩]) := HPH6.out.below hb7
                    have HF7 : Hid (Fr cb mb nb W1.heap.size W1 w7) := HFR6.out.below (Nat.le_refl _) hb7
                    have HV7 : Hid (AttV w7 W1.heap.size (.slice (some ⟨g5, 0, none⟩) (k + 1) c5) L) := HAV6.out.below hb7
                    have HX7 : Hid (w7.heap[ab]? = some (.cells #[.string xa.pre, .string xa.loc, .string xa.uri, .string xa.val] 87 (0, 0))) := (hb7.block ab (pairs.lt_heap HX6.out)).trans HX6.out
                    clear hb7 hnn hxx hll hD
                    go_wp2
                    go_roundw
                    case rel => exact ⟨i - 1, _, L, by omega, by omega, by omega, by go_num, fun e => by rw [e] at hk; simp at hk, HV7.out, HP7.out, HF7.out⟩
                    case measure => simp [intOf]; omega
                  · have hD : ∀ w, Calls Try.prog 102 #[.agg #[.string y.pre, .string y.loc, .string y.uri, .string y.val], .agg #[.string xa.pre, .string xa.loc, .string xa.uri, .string xa.val]] w fun e w' => e = .returned (.bool true) ∧ Below w.heap.size w w' := fun w => by rw [← hls]; exact less_any y xa w
                    clear hls
                    go_upto_region 21 with fail
                    refine quiets.wp_region_below (by kernel_rfl) (by kernel_rfl) ?_
                    repeat (go_big_quiet_step ((first | (intro hq; rfl) | (intro hq; simp [go_sem, hnn _ hq]; rfl) | (intro hq; simp [go_sem, (hxx _ hq).1, (hxx _ hq).2.1, (hxx _ hq).2.2.1, (hxx _ hq).2.2.2]; rfl) | (intro hq; simp [go_sem, (hll _ hq).1, (hll _ hq).2.1, (hll _ hq).2.2.1, (hll _ hq).2.2.2]; rfl) | (intro hq; exact quiets.below_call (hD _) hq))))
                    refine wpQuiet_nil ?_
                    intro w7 hb7
                    have HP7 : Hid (Ph w w7 cb mb len cap a m nb #[.int .i64 1, .string pr, .string lo, .string u, .slice ga DS.length c, .slice (some ⟨g5, 0, none⟩) (k + 1) c5, .slice none 0 0, .string ⟨#[]⟩]) := HPH6.out.below hb7
                    have HF7 : Hid (Fr cb mb nb W1.heap.size W1 w7) := HFR6.out.below (Nat.le_refl _) hb7
                    have HV7 : Hid (AttV w7 W1.heap.size (.slice (some ⟨g5, 0, none⟩) (k + 1) c5) L) := HAV6.out.below hb7
                    have HX7 : Hid (w7.heap[ab]? = some (.cells #[.string xa.pre, .string xa.loc, .string xa.uri, .string xa.val] 87 (0, 0))) := (hb7.block ab (pairs.lt_heap HX6.out)).trans HX6.out
                    clear hnn hxx hll hD
                    have HPA : Hid (∀ o, Ph w (w7.alloc o) cb mb len cap a m nb #[.int .i64 1, .string pr, .string lo, .string u, .slice ga DS.length c, .slice (some ⟨g5, 0, none⟩) (k + 1) c5, .slice none 0 0, .string ⟨#[]⟩]) := fun o => HP7.out.below ((Below.refl _ _).alloc (Nat.le_refl _) o)
                    have HFA : Hid (∀ o, Fr cb mb nb W1.heap.size W1 (w7.alloc o)) := fun o => HF7.out.below (Nat.le_refl _) ((Below.refl _ _).alloc (Nat.le_refl _) o)
                    have HBA : Hid (W1.heap.size ≤ w7.heap.size) := HF7.out.size
                    have HNB1 : Hid (nb < W1.heap.size) := HNC.out.2.2.2
                    obtain ⟨n0, n1, n2, n3, n4, n5, n6, n7⟩ := box8 HP7.out.box
                    obtain ⟨⟨o0, o1, o2, o3⟩, q0, q2⟩ := box4 HX7.out
                    have HRA7 : Hid (∀ o, RowA (w7.alloc o) W1.heap.size g5 (k + 1) c5 L) := fun o => (HRA.out.below hb7).below ((Below.refl _ _).alloc (Nat.le_refl _) o)
                    clear hb7
                    go_wp2_with (at_builtin; refine add_att_at W1.heap.size g5 (k + 1) c5 _ L xa (HRA7.out _) (by have := HBA.out; simp; omega) (by omega) (by rfl) _ _ (by rfl) (by rfl) (by rfl) (by simp) ?_; rintro g' c' w8 hR8 hb8 hs8; have HP8 : Hid _ := (HPA.out _).over hb8 HNB1.out; have HF8 : Hid _ := (HFA.out _).over hb8; have HR8 : Hid _ := hR8; obtain ⟨n0, n1, n2, n3, n4, n5, n6, n7⟩ := box8 HP8.out.box; obtain ⟨f0, f1, f2, f3, f4, f5, f6, f7⟩ := box_froz HP8.out.box; clear hR8 hb8 hs8)
                    go_roundw
                    case rel => exact ⟨i - 1, .slice (some ⟨g', 0, none⟩) (k + 1 + 1) c', L ++ [xa], by omega, by omega, by simp; omega, by go_num, fun e => absurd e (by simp), (AttV.row_of HR8.out (by intro x hx; rw [List.mem_append, List.mem_singleton] at hx; rcases hx with hx | rfl; exact HAV6.out.fine x hx; exact hxa)).set HNB1.out, HP8.out.set 5 _, HF8.out.set 5 _⟩
                    case measure => simp [intOf]; omega
          · have hfine := hav.out.fine
            obtain ⟨aa, ac, rfl, hoa⟩ := hav.out.shape
            have HAV9 : Hid (AttV wr W1.heap.size (.slice aa L.length ac) L) := hav.out
            have HOA : Hid (OwnA wr aa L (fun g => W1.heap.size ≤ g ∧ g < wr.heap.size)) := hoa
            have HAT : Hid (L.length ≤ 2 ∧ ∀ x ∈ L, x.size ≤ 720) := ⟨by omega, hfine⟩
            clear hoa hfine hav HAV1 HFR1 HNL hLi hi0 hi2
            go_wp2_with fail
            refine (below_any _ cb len cap a 4 (by decide) hph.out.cx.cur).mono ?_
            rintro e W2 ⟨x2, rfl, hx20, hx21, hc2, hb2⟩
            have HP2 : Hid (Ph w W2 cb mb len cap a m nb #[.int .i64 1, .string pr, .string lo, .string u, .slice ga DS.length c, .slice aa L.length ac, .slice none 0 0, .string ⟨#[]⟩]) := hph.out.but hc2 hb2
            have HF2 : Hid (Fr cb mb nb W1.heap.size W1 W2) := hfr.out.out (Nat.le_refl _) (out_but hb2)
            have HD2 : Hid (OwnP W2 ga DS (fun g => nb < g ∧ g < W1.heap.size)) := HF2.out.own HNC.out.1 HNC.out.2.1 HOW1.out
            have HAL2 : Hid (PairsAt W2 (some ⟨g4, 0, none⟩) AL) := HF2.out.pairs HNC.out.1 HNC.out.2.1 HAL1.out (fun b off e => by cases e; exact HG1.out)
            have HA2 : Hid (OwnA W2 aa L (fun g => W1.heap.size ≤ g ∧ g < wr.heap.size)) := trees.OwnA.out (G := Fm cb mb) HOA.out (out_but hb2) (fun b (hb : W1.heap.size ≤ b ∧ b < wr.heap.size) (hf : b = cb ∨ b = mb) => by have := HNC.out; omega)
            have HAVW : Hid (AttV W2 W1.heap.size (.slice aa L.length ac) L) := HAV9.out.out (F := Fm cb mb) (out_but hb2) (fun b (hf : b = cb ∨ b = mb) => by have := HNC.out; omega)
            clear HAV9
            have HN2 : Hid (W1.heap.size ≤ wr.heap.size ∧ wr.heap.size ≤ W2.heap.size) := ⟨hfr.out.size, hb2.size⟩
            have HG2 : Hid (nb < g4 ∧ g4 < W2.heap.size) := by have := HG1.out; have := HN2.out; exact ⟨by omega, by omega⟩
            have HK2 : Hid (KidR W2 W2.heap.size (.slice none 0 0) [] (fun _ _ => False)) := KidR.nil _ _
            have HFK : Hid (Fr cb mb nb W2.heap.size W2 W2) := Fr.refl _ _ _ _ _
            have HNW : Hid ((cb < nb ∧ mb < nb) ∧ w.heap.size < nb ∧ nb < W2.heap.size) := by have := HNC.out; have := HN2.out; exact ⟨⟨by omega, by omega⟩, by omega, by omega⟩
            clear hc2 hb2 hph hfr HF2 HOA HOW1 HAL1 HG1
            go_wp2
            go_loopw [16] (fun q wk => ∃ (i : Int) (ka : Option Addr) (kc : Nat) (P : List TH) (G : Nat → Bset) (m1 : Nat), 0 ≤ i ∧ i ≤ 3 ∧ (P.length : Int) + i ≤ 3 ∧ m1 ≤ m ∧ q = .int .i64 i ∧ Hid (nszs (trees1 P) ≤ 8000 * (m - m1)) ∧ Hid (KidR wk W2.heap.size (.slice ka P.length kc) P G) ∧ Hid (Ph w wk cb mb len cap a m1 nb #[.int .i64 1, .string pr, .string lo, .string u, .slice ga DS.length c, .slice aa L.length ac, .slice ka P.length kc, .string ⟨#[]⟩]) ∧ Hid (Fr cb mb nb W2.heap.size W2 wk)) (fun q _ => (intOf q).toNat)
            case atStart => exact ⟨x2, none, 0, [], _, m, hx20, by omega, by simp; omega, Nat.le_refl _, rfl, Nat.zero_le _, HK2, HP2, HFK⟩
            case round =>
              obtain ⟨i, ka, kc, P, G, m1, hi0, hi2, hPi, hm1, rfl, hsz, hk, hph, hfr⟩ := hrel
              go_upto_region 24 with fail
              go_cut [115] from 108 to 114 (fun s115 wx => ∃ bq : Bool, s115 = .bool bq ∧ (bq = true → 0 < i ∧ 0 < m1) ∧ Hid (wx = wr))
              case first =>
                have hmb : wr.cell? ⟨mb, 0, none⟩ = some (.int .i64 (m1 : Int)) := by have h := hph.out.cx.most; simp [World.cell?, h]
                by_cases hgo : 0 < i
                · by_cases hmm : 0 < (m1 : Int)
                  · go_wp2
                    go_meet
                    case rel => exact ⟨_, rfl, fun _ => ⟨hgo, by omega⟩, rfl⟩
                  · go_wp2
                    go_meet
                    case rel => exact ⟨_, rfl, fun h => by first | (simp at h; done) | (simp at h; omega), rfl⟩
                · go_wp2
                  go_meet
                  case rel => exact ⟨_, rfl, fun h => by first | (simp at h; done) | (simp at h; omega), rfl⟩
              case rest =>
                obtain ⟨bq, rfl, hbq, hwx⟩ := hcut
                have hwx' : wc = wr := hwx
                subst hwx'
                cases bq
                · have HRW : Hid (OwnL wc ka (trees1 P) (fun b => W2.heap.size ≤ b ∧ b < wc.heap.size)) := hk.out.rowOf
                  have HLP : Hid (nszs (trees1 P) ≤ 1048576 ∧ (trees1 P).length ≤ maxLen) := by have := hsz.out; have := trees.nszs_eq (trees1 P); have h1 : nszs (trees1 P) ≤ 1048576 := by omega
                                                                                                exact ⟨h1, by unfold maxLen; omega⟩
                  have hM := trees.spec_merge 0 (trees1 P) ka kc wc HLP.out.1 (HRW.out.at HLP.out.2)
                  unfold trees.MergeOk at hM
                  rw [trees.trees1_len] at hM
                  obtain ⟨n0, n1, n2, n3, n4, n5, n6, n7⟩ := box8 hph.out.box
                  clear hbq
                  go_wp2_with fail
                  refine hM.mono ?_
                  clear hM
                  rintro e w5 ⟨⟨g, c5, P5, G5, rfl, hv5, hr5, hz5⟩, hb5⟩
                  have HP5 : Hid (Ph w w5 cb mb len cap a m1 nb #[.int .i64 1, .string pr, .string lo, .string u, .slice ga DS.length c, .slice aa L.length ac, .slice ka P.length kc, .string ⟨#[]⟩]) := hph.out.below hb5
                  have HF5 : Hid (Fr cb mb nb W2.heap.size W2 w5) := hfr.out.below (Nat.le_refl _) hb5
                  have HR5 : Hid (RowV w5 wc.heap.size g P5.length c5 P5 G5) := hr5
                  have HV5 : Hid (trees1 P5 = trees.mergeL (trees1 P) ∧ nszs (trees1 P5) ≤ nszs (trees1 P)) := ⟨hv5, hz5⟩
                  have HSW : Hid (W2.heap.size ≤ wc.heap.size ∧ wc.heap.size ≤ w5.heap.size) := ⟨hfr.out.size, hb5.size⟩
                  clear hv5 hr5 hz5 hb5 n0 n1 n2 n3 n4 n5 n6 n7 hph hfr hk HRW
                  obtain ⟨n0, n1, n2, n3, n4, n5, n6, n7⟩ := box8 HP5.out.box
                  obtain ⟨f0, f1, f2, f3, f4, f5, f6, f7⟩ := box_froz HP5.out.box
                  obtain ⟨r0, r1, r2, r3, r4, r5, r6, r7⟩ := box8 HP5.out.res
                  obtain ⟨q0, q1, q2, q3, q4, q5, q6, q7⟩ := box_froz HP5.out.res
                  have hne : w.heap.size ≠ nb := by have := HP5.out.gt; omega
                  have hne' : nb ≠ w.heap.size := fun e => hne e.symm
                  go_wp2_with fail
                  refine bodyPost_ret (by simp [results, Try.results80, go_sem, r0, r1, r2, r3, r4, r5, r6, r7]; try rfl) rfl ?_
                  have hHN := HN2.out
                  have hLU := HLU.out
                  exact el_end (W2 := W2) (wc := wc) (w5 := w5) (s1 := W1.heap.size) HP5.out.st HP5.out.cx HP5.out.out HP5.out.gt HF5.out (((((((((Out.refl _ w5).set (F := fun b => b = nb ∨ b = w.heap.size) (.inl rfl) _ _).set (.inr rfl) _ _).set (.inr rfl) _ _).set (.inr rfl) _ _).set (.inr rfl) _ _).set (.inr rfl) _ _).set (.inr rfl) _ _).set (.inr rfl) _ _ |>.set (.inr rfl) _ _) HNW.out.1 HNC.out.2.2.2 hHN.1 hHN.2 HSW.out.1 HSW.out.2 HD2.out HA2.out HR5.out HAVW.out ⟨hLU.1, hLU.2.1, hLU.2.2⟩ hdl HFN.out HAT.out (Nat.le_trans HV5.out.2 hsz.out) (Nat.le_trans HV5.out.2 HLP.out.1) hm1
                · obtain ⟨hgo, hm0⟩ := hbq rfl
                  obtain ⟨m2, rfl⟩ : ∃ m2, m1 = m2 + 1 := ⟨m1 - 1, by omega⟩
                  have hmb : wc.cell? ⟨mb, 0, none⟩ = some (.int .i64 ((m2 : Int) + 1)) := by have h := hph.out.cx.most; simp [World.cell?, h]
                  have hmf : wc.frozen? ⟨mb, 0, none⟩ = false := by have h := hph.out.cx.most; simp [World.frozen?, h]
                  have HPD : Hid (Ph w (wc.setCell ⟨mb, 0, none⟩ (.int .i64 (m2 : Int))) cb mb len cap a m2 nb _) := hph.out.dec m2
                  have HFD : Hid (Fr cb mb nb W2.heap.size W2 (wc.setCell ⟨mb, 0, none⟩ (.int .i64 (m2 : Int)))) := hfr.out.setm 0 _
                  have HKD : Hid (KidR (wc.setCell ⟨mb, 0, none⟩ (.int .i64 (m2 : Int))) W2.heap.size (.slice ka P.length kc) P G) := hk.out.set (by have := HNW.out; omega)
                  clear hbq hm0
                  go_wp2_with fail
                  refine (below_any _ cb len cap a 6 (by decide) HPD.out.cx.cur).mono ?_
                  rintro e w3 ⟨y, rfl, hy0, hy1, hc3, hb3⟩
                  have HP3 : Hid (Ph w w3 cb mb len cap a m2 nb #[.int .i64 1, .string pr, .string lo, .string u, .slice ga DS.length c, .slice aa L.length ac, .slice ka P.length kc, .string ⟨#[]⟩]) := HPD.out.but hc3 hb3
                  have HF3 : Hid (Fr cb mb nb W2.heap.size W2 w3) := HFD.out.out (Nat.le_refl _) (out_but hb3)
                  have HK3 : Hid (KidR w3 W2.heap.size (.slice ka P.length kc) P G) := HKD.out.out (F := Fm cb mb) (out_but hb3) (fun b (hf : b = cb ∨ b = mb) => by have := HNW.out; omega)
                  clear hc3 hb3 hmb hmf HPD HFD HKD hph hfr hk
                  obtain rfl | rfl | rfl | rfl | hy4 : y = 0 ∨ y = 1 ∨ y = 2 ∨ y = 3 ∨ (4 ≤ y ∧ y ≤ 5) := by omega
                  · go_wp2_with fail
                    have HPd : Hid (Ph w w3.drew cb mb len cap a m2 nb #[.int .i64 1, .string pr, .string lo, .string u, .slice ga DS.length c, .slice aa L.length ac, .slice ka P.length kc, .string ⟨#[]⟩]) := HP3.out.below (Below.refl _ _).drew
                    have HKd : Hid (KidR w3.drew W2.heap.size (.slice ka P.length kc) P G) := HK3.out.below (Below.refl _ _).drew
                    have HFd : Hid (Fr cb mb nb W2.heap.size W2 w3.drew) := HF3.out.below (Nat.le_refl _) (Below.refl _ _).drew
                    have HFT : Hid (∀ o, Ph w (w3.drew.alloc o) cb mb len cap a m2 nb _) := fun o => HPd.out.below ((Below.refl _ _).alloc (Nat.le_refl _) o)
                    have n6d : w3.cell? ⟨nb, 6, none⟩ = some (.slice ka P.length kc) := (box8 HPd.out.box).2.2.2.2.2.2.1
                    have n6a : ∀ o, (w3.alloc o).cell? ⟨nb, 6, none⟩ = some (.slice ka P.length kc) := fun o => (box8 (HFT.out o).box).2.2.2.2.2.2.1
                    have HFL : Hid (∀ o, Fr cb mb nb W2.heap.size W2 (w3.drew.alloc o)) := fun o => HFd.out.below (Nat.le_refl _) ((Below.refl _ _).alloc (Nat.le_refl _) o)
                    have HKL : Hid (∀ o, KidR (w3.drew.alloc o) W2.heap.size (.slice ka P.length kc) P G) := fun o => HKd.out.below ((Below.refl _ _).alloc (Nat.le_refl _) o)
                    clear HP3 HK3 HF3
                    go_region_law (first
                      | (refine step_kid rfl (.tmp 140) (.tmp 145) rfl W2.heap.size (.slice ka P.length kc) w5.heap.size P G (Tree.mk 2 ⟨#[]⟩ ⟨#[]⟩ ⟨#[]⟩ tx [] [] [], Hdr.mk none 0 none 0 none 0) (fun _ => False) (by simp [Act.eval]) (by simp [Act.eval]) (HK5.out _) (HS5.out _) (by omega) (own_plain _ 2 ⟨#[]⟩ tx (by decide) (by decide) (by unfold maxLen; omega)) (fun b hb => False.elim hb) (fun g _ hb => hb) (fun i b _ hb => hb) (cells_new w5 (Tree.mk 2 ⟨#[]⟩ ⟨#[]⟩ ⟨#[]⟩ tx [] [] [], Hdr.mk none 0 none 0 none 0).1 (Tree.mk 2 ⟨#[]⟩ ⟨#[]⟩ ⟨#[]⟩ tx [] [] [], Hdr.mk none 0 none 0 none 0).2 _) ?_
                         intro av cv w6 hk6 hb6
                         have HP6 : Hid _ := (HP5.out _).over hb6 HNW.out.2.2
                         have HF6 : Hid _ := (HF5.out _).over hb6
                         have HK6 : Hid _ := hk6
                         obtain ⟨n0, n1, n2, n3, n4, n5, n6, n7⟩ := box8 HP6.out.box
                         obtain ⟨f0, f1, f2, f3, f4, f5, f6, f7⟩ := box_froz HP6.out.box
                         clear hk6 hb6 n6w n6v n6d n6a)
                      | (go_simp
                         go_wp2_with (go_at_call 88; refine (tx5_list _ _ _ _ _ _ (by simp) HPd.out.cx.cur).mono ?_; rintro e w5 ⟨tx, htx, rfl, hc5, hb5⟩; have htz := small6.1 tx htx; have HPW : Hid (Ph w w5 cb mb len cap a m2 nb #[.int .i64 1, .string pr, .string lo, .string u, .slice ga DS.length c, .slice aa L.length ac, .slice ka P.length kc, .string ⟨#[]⟩]) := (HPd.out).but hc5 hb5; have n6w : w5.cell? ⟨nb, 6, none⟩ = some (.slice ka P.length kc) := (box8 HPW.out.box).2.2.2.2.2.2.1; have HP5 : Hid (∀ o, Ph w (w5.alloc o) cb mb len cap a m2 nb _) := fun o => HPW.out.below ((Below.refl _ _).alloc (Nat.le_refl _) o); have n6v : ∀ o, (w5.alloc o).cell? ⟨nb, 6, none⟩ = some (.slice ka P.length kc) := fun o => (box8 (HP5.out o).box).2.2.2.2.2.2.1; have HF5 : Hid (∀ o, Fr cb mb nb W2.heap.size W2 (w5.alloc o)) := fun o => (HFd.out.out (Nat.le_refl _) (out_but hb5)).below (Nat.le_refl _) ((Below.refl _ _).alloc (Nat.le_refl _) o); have HK5 : Hid (∀ o, KidR (w5.alloc o) W2.heap.size (.slice ka P.length kc) P G) := fun o => (HKd.out.out (F := Fm cb mb) (out_but hb5) (fun b (hf : b = cb ∨ b = mb) => by have := HNW.out; omega)).below ((Below.refl _ _).alloc (Nat.le_refl _) o); have HS5 : Hid (∀ o, W2.heap.size ≤ (w5.alloc o).heap.size) := fun o => (HF5.out o).size; clear hc5 hb5 htx)))
                    all_goals
                      clear n0 n1 n2 n3 n4 n5 n6 n7 f0 f1 f2 f3 f4 f5 f6 f7
                      go_wp2
                      go_roundw
                      case rel =>
                        have hl1 : (P ++ [(Tree.mk 2 ⟨#[]⟩ ⟨#[]⟩ ⟨#[]⟩ tx [] [] [], Hdr.mk none 0 none 0 none 0)]).length = P.length + 1 := by rw [List.length_append]; rfl
                        exact ⟨i - 1, av, cv, P ++ [(Tree.mk 2 ⟨#[]⟩ ⟨#[]⟩ ⟨#[]⟩ tx [] [] [], Hdr.mk none 0 none 0 none 0)], (fun i' => if i' = P.length then fun _ => False else G i'), m2, by omega, by omega, by rw [hl1]; omega, by omega, by go_num, sz_kid hsz.out hm1 (Nat.le_refl m2) (by rw [leaf_sz]; show 0 + tx.size + 1 ≤ _; omega), by rw [hl1]; exact HK6.out.set HNW.out.2.2, by rw [hl1]; exact HP6.out.set 6 _, HF6.out.set 6 _⟩
                      case measure => simp [intOf]; omega
                  · go_wp2_with fail
                    have HPd : Hid (Ph w w3.drew cb mb len cap a m2 nb #[.int .i64 1, .string pr, .string lo, .string u, .slice ga DS.length c, .slice aa L.length ac, .slice ka P.length kc, .string ⟨#[]⟩]) := HP3.out.below (Below.refl _ _).drew
                    have HKd : Hid (KidR w3.drew W2.heap.size (.slice ka P.length kc) P G) := HK3.out.below (Below.refl _ _).drew
                    have HFd : Hid (Fr cb mb nb W2.heap.size W2 w3.drew) := HF3.out.below (Nat.le_refl _) (Below.refl _ _).drew
                    have HFT : Hid (∀ o, Ph w (w3.drew.alloc o) cb mb len cap a m2 nb _) := fun o => HPd.out.below ((Below.refl _ _).alloc (Nat.le_refl _) o)
                    have n6d : w3.cell? ⟨nb, 6, none⟩ = some (.slice ka P.length kc) := (box8 HPd.out.box).2.2.2.2.2.2.1
                    have n6a : ∀ o, (w3.alloc o).cell? ⟨nb, 6, none⟩ = some (.slice ka P.length kc) := fun o => (box8 (HFT.out o).box).2.2.2.2.2.2.1
                    have HFL : Hid (∀ o, Fr cb mb nb W2.heap.size W2 (w3.drew.alloc o)) := fun o => HFd.out.below (Nat.le_refl _) ((Below.refl _ _).alloc (Nat.le_refl _) o)
                    have HKL : Hid (∀ o, KidR (w3.drew.alloc o) W2.heap.size (.slice ka P.length kc) P G) := fun o => HKd.out.below ((Below.refl _ _).alloc (Nat.le_refl _) o)
                    clear HP3 HK3 HF3
                    go_region_law (first
                      | (refine step_kid rfl (.tmp 140) (.tmp 145) rfl W2.heap.size (.slice ka P.length kc) w5.heap.size P G (Tree.mk 2 ⟨#[]⟩ ⟨#[]⟩ ⟨#[]⟩ tx [] [] [], Hdr.mk none 0 none 0 none 0) (fun _ => False) (by simp [Act.eval]) (by simp [Act.eval]) (HK5.out _) (HS5.out _) (by omega) (own_plain _ 2 ⟨#[]⟩ tx (by decide) (by decide) (by unfold maxLen; omega)) (fun b hb => False.elim hb) (fun g _ hb => hb) (fun i b _ hb => hb) (cells_new w5 (Tree.mk 2 ⟨#[]⟩ ⟨#[]⟩ ⟨#[]⟩ tx [] [] [], Hdr.mk none 0 none 0 none 0).1 (Tree.mk 2 ⟨#[]⟩ ⟨#[]⟩ ⟨#[]⟩ tx [] [] [], Hdr.mk none 0 none 0 none 0).2 _) ?_
                         intro av cv w6 hk6 hb6
                         have HP6 : Hid _ := (HP5.out _).over hb6 HNW.out.2.2
                         have HF6 : Hid _ := (HF5.out _).over hb6
                         have HK6 : Hid _ := hk6
                         obtain ⟨n0, n1, n2, n3, n4, n5, n6, n7⟩ := box8 HP6.out.box
                         obtain ⟨f0, f1, f2, f3, f4, f5, f6, f7⟩ := box_froz HP6.out.box
                         clear hk6 hb6 n6w n6v n6d n6a)
                      | (go_simp
                         go_wp2_with (go_at_call 88; refine (tx5_list _ _ _ _ _ _ (by simp) HPd.out.cx.cur).mono ?_; rintro e w5 ⟨tx, htx, rfl, hc5, hb5⟩; have htz := small6.1 tx htx; have HPW : Hid (Ph w w5 cb mb len cap a m2 nb #[.int .i64 1, .string pr, .string lo, .string u, .slice ga DS.length c, .slice aa L.length ac, .slice ka P.length kc, .string ⟨#[]⟩]) := (HPd.out).but hc5 hb5; have n6w : w5.cell? ⟨nb, 6, none⟩ = some (.slice ka P.length kc) := (box8 HPW.out.box).2.2.2.2.2.2.1; have HP5 : Hid (∀ o, Ph w (w5.alloc o) cb mb len cap a m2 nb _) := fun o => HPW.out.below ((Below.refl _ _).alloc (Nat.le_refl _) o); have n6v : ∀ o, (w5.alloc o).cell? ⟨nb, 6, none⟩ = some (.slice ka P.length kc) := fun o => (box8 (HP5.out o).box).2.2.2.2.2.2.1; have HF5 : Hid (∀ o, Fr cb mb nb W2.heap.size W2 (w5.alloc o)) := fun o => (HFd.out.out (Nat.le_refl _) (out_but hb5)).below (Nat.le_refl _) ((Below.refl _ _).alloc (Nat.le_refl _) o); have HK5 : Hid (∀ o, KidR (w5.alloc o) W2.heap.size (.slice ka P.length kc) P G) := fun o => (HKd.out.out (F := Fm cb mb) (out_but hb5) (fun b (hf : b = cb ∨ b = mb) => by have := HNW.out; omega)).below ((Below.refl _ _).alloc (Nat.le_refl _) o); have HS5 : Hid (∀ o, W2.heap.size ≤ (w5.alloc o).heap.size) := fun o => (HF5.out o).size; clear hc5 hb5 htx)))
                    all_goals
                      clear n0 n1 n2 n3 n4 n5 n6 n7 f0 f1 f2 f3 f4 f5 f6 f7
                      go_wp2
                      go_roundw
                      case rel =>
                        have hl1 : (P ++ [(Tree.mk 2 ⟨#[]⟩ ⟨#[]⟩ ⟨#[]⟩ tx [] [] [], Hdr.mk none 0 none 0 none 0)]).length = P.length + 1 := by rw [List.length_append]; rfl
                        exact ⟨i - 1, av, cv, P ++ [(Tree.mk 2 ⟨#[]⟩ ⟨#[]⟩ ⟨#[]⟩ tx [] [] [], Hdr.mk none 0 none 0 none 0)], (fun i' => if i' = P.length then fun _ => False else G i'), m2, by omega, by omega, by rw [hl1]; omega, by omega, by go_num, sz_kid hsz.out hm1 (Nat.le_refl m2) (by rw [leaf_sz]; show 0 + tx.size + 1 ≤ _; omega), by rw [hl1]; exact HK6.out.set HNW.out.2.2, by rw [hl1]; exact HP6.out.set 6 _, HF6.out.set 6 _⟩
                      case measure => simp [intOf]; omega
                  · go_wp2_with fail
                    have HPd : Hid (Ph w w3.drew cb mb len cap a m2 nb #[.int .i64 1, .string pr, .string lo, .string u, .slice ga DS.length c, .slice aa L.length ac, .slice ka P.length kc, .string ⟨#[]⟩]) := HP3.out.below (Below.refl _ _).drew
                    have HKd : Hid (KidR w3.drew W2.heap.size (.slice ka P.length kc) P G) := HK3.out.below (Below.refl _ _).drew
                    have HFd : Hid (Fr cb mb nb W2.heap.size W2 w3.drew) := HF3.out.below (Nat.le_refl _) (Below.refl _ _).drew
                    have HFT : Hid (∀ o, Ph w (w3.drew.alloc o) cb mb len cap a m2 nb _) := fun o => HPd.out.below ((Below.refl _ _).alloc (Nat.le_refl _) o)
                    have n6d : w3.cell? ⟨nb, 6, none⟩ = some (.slice ka P.length kc) := (box8 HPd.out.box).2.2.2.2.2.2.1
                    have n6a : ∀ o, (w3.alloc o).cell? ⟨nb, 6, none⟩ = some (.slice ka P.length kc) := fun o => (box8 (HFT.out o).box).2.2.2.2.2.2.1
                    have HFL : Hid (∀ o, Fr cb mb nb W2.heap.size W2 (w3.drew.alloc o)) := fun o => HFd.out.below (Nat.le_refl _) ((Below.refl _ _).alloc (Nat.le_refl _) o)
                    have HKL : Hid (∀ o, KidR (w3.drew.alloc o) W2.heap.size (.slice ka P.length kc) P G) := fun o => HKd.out.below ((Below.refl _ _).alloc (Nat.le_refl _) o)
                    clear HP3 HK3 HF3
                    go_region_law (first
                      | (refine step_kid rfl (.tmp 151) (.tmp 156) rfl W2.heap.size (.slice ka P.length kc) w5.heap.size P G (Tree.mk 3 ⟨#[]⟩ ⟨#[]⟩ ⟨#[]⟩ tx [] [] [], Hdr.mk none 0 none 0 none 0) (fun _ => False) (by simp [Act.eval]) (by simp [Act.eval]) (HK5.out _) (HS5.out _) (by omega) (own_plain _ 3 ⟨#[]⟩ tx (by decide) (by decide) (by unfold maxLen; omega)) (fun b hb => False.elim hb) (fun g _ hb => hb) (fun i b _ hb => hb) (cells_new w5 (Tree.mk 3 ⟨#[]⟩ ⟨#[]⟩ ⟨#[]⟩ tx [] [] [], Hdr.mk none 0 none 0 none 0).1 (Tree.mk 3 ⟨#[]⟩ ⟨#[]⟩ ⟨#[]⟩ tx [] [] [], Hdr.mk none 0 none 0 none 0).2 _) ?_
                         intro av cv w6 hk6 hb6
                         have HP6 : Hid _ := (HP5.out _).over hb6 HNW.out.2.2
                         have HF6 : Hid _ := (HF5.out _).over hb6
                         have HK6 : Hid _ := hk6
                         obtain ⟨n0, n1, n2, n3, n4, n5, n6, n7⟩ := box8 HP6.out.box
                         obtain ⟨f0, f1, f2, f3, f4, f5, f6, f7⟩ := box_froz HP6.out.box
                         clear hk6 hb6 n6w n6v n6d n6a)
                      | (go_simp
                         go_wp2_with (go_at_call 88; refine (nt5_list _ _ _ _ _ _ (by simp) HPd.out.cx.cur).mono ?_; rintro e w5 ⟨tx, htx, rfl, hc5, hb5⟩; have htz := small6.2.1 tx htx; have HPW : Hid (Ph w w5 cb mb len cap a m2 nb #[.int .i64 1, .string pr, .string lo, .string u, .slice ga DS.length c, .slice aa L.length ac, .slice ka P.length kc, .string ⟨#[]⟩]) := (HPd.out).but hc5 hb5; have n6w : w5.cell? ⟨nb, 6, none⟩ = some (.slice ka P.length kc) := (box8 HPW.out.box).2.2.2.2.2.2.1; have HP5 : Hid (∀ o, Ph w (w5.alloc o) cb mb len cap a m2 nb _) := fun o => HPW.out.below ((Below.refl _ _).alloc (Nat.le_refl _) o); have n6v : ∀ o, (w5.alloc o).cell? ⟨nb, 6, none⟩ = some (.slice ka P.length kc) := fun o => (box8 (HP5.out o).box).2.2.2.2.2.2.1; have HF5 : Hid (∀ o, Fr cb mb nb W2.heap.size W2 (w5.alloc o)) := fun o => (HFd.out.out (Nat.le_refl _) (out_but hb5)).below (Nat.le_refl _) ((Below.refl _ _).alloc (Nat.le_refl _) o); have HK5 : Hid (∀ o, KidR (w5.alloc o) W2.heap.size (.slice ka P.length kc) P G) := fun o => (HKd.out.out (F := Fm cb mb) (out_but hb5) (fun b (hf : b = cb ∨ b = mb) => by have := HNW.out; omega)).below ((Below.refl _ _).alloc (Nat.le_refl _) o); have HS5 : Hid (∀ o, W2.heap.size ≤ (w5.alloc o).heap.size) := fun o => (HF5.out o).size; clear hc5 hb5 htx)))
                    all_goals
                      clear n0 n1 n2 n3 n4 n5 n6 n7 f0 f1 f2 f3 f4 f5 f6 f7
                      go_wp2
                      go_roundw
                      case rel =>
                        have hl1 : (P ++ [(Tree.mk 3 ⟨#[]⟩ ⟨#[]⟩ ⟨#[]⟩ tx [] [] [], Hdr.mk none 0 none 0 none 0)]).length = P.length + 1 := by rw [List.length_append]; rfl
                        exact ⟨i - 1, av, cv, P ++ [(Tree.mk 3 ⟨#[]⟩ ⟨#[]⟩ ⟨#[]⟩ tx [] [] [], Hdr.mk none 0 none 0 none 0)], (fun i' => if i' = P.length then fun _ => False else G i'), m2, by omega, by omega, by rw [hl1]; omega, by omega, by go_num, sz_kid hsz.out hm1 (Nat.le_refl m2) (by rw [leaf_sz]; show 0 + tx.size + 1 ≤ _; omega), by rw [hl1]; exact HK6.out.set HNW.out.2.2, by rw [hl1]; exact HP6.out.set 6 _, HF6.out.set 6 _⟩
                      case measure => simp [intOf]; omega
                  · go_wp2_with fail
                    have HPd : Hid (Ph w w3.drew cb mb len cap a m2 nb #[.int .i64 1, .string pr, .string lo, .string u, .slice ga DS.length c, .slice aa L.length ac, .slice ka P.length kc, .string ⟨#[]⟩]) := HP3.out.below (Below.refl _ _).drew
                    have HKd : Hid (KidR w3.drew W2.heap.size (.slice ka P.length kc) P G) := HK3.out.below (Below.refl _ _).drew
                    have HFd : Hid (Fr cb mb nb W2.heap.size W2 w3.drew) := HF3.out.below (Nat.le_refl _) (Below.refl _ _).drew
                    have HFT : Hid (∀ o, Ph w (w3.drew.alloc o) cb mb len cap a m2 nb _) := fun o => HPd.out.below ((Below.refl _ _).alloc (Nat.le_refl _) o)
                    have n6d : w3.cell? ⟨nb, 6, none⟩ = some (.slice ka P.length kc) := (box8 HPd.out.box).2.2.2.2.2.2.1
                    have n6a : ∀ o, (w3.alloc o).cell? ⟨nb, 6, none⟩ = some (.slice ka P.length kc) := fun o => (box8 (HFT.out o).box).2.2.2.2.2.2.1
                    have HFL : Hid (∀ o, Fr cb mb nb W2.heap.size W2 (w3.drew.alloc o)) := fun o => HFd.out.below (Nat.le_refl _) ((Below.refl _ _).alloc (Nat.le_refl _) o)
                    have HKL : Hid (∀ o, KidR (w3.drew.alloc o) W2.heap.size (.slice ka P.length kc) P G) := fun o => HKd.out.below ((Below.refl _ _).alloc (Nat.le_refl _) o)
                    clear HP3 HK3 HF3
                    go_region_law (first
                      | (refine step_kid rfl (.tmp 162) (.tmp 167) rfl W2.heap.size (.slice ka P.length kc) w5.heap.size P G (Tree.mk 4 ⟨#[]⟩ ⟨#[116]⟩ ⟨#[]⟩ tx [] [] [], Hdr.mk none 0 none 0 none 0) (fun _ => False) (by simp [Act.eval]) (by simp [Act.eval]) (HK5.out _) (HS5.out _) (by omega) (own_plain _ 4 ⟨#[116]⟩ tx (by decide) (by decide) (by unfold maxLen; omega)) (fun b hb => False.elim hb) (fun g _ hb => hb) (fun i b _ hb => hb) (cells_new w5 (Tree.mk 4 ⟨#[]⟩ ⟨#[116]⟩ ⟨#[]⟩ tx [] [] [], Hdr.mk none 0 none 0 none 0).1 (Tree.mk 4 ⟨#[]⟩ ⟨#[116]⟩ ⟨#[]⟩ tx [] [] [], Hdr.mk none 0 none 0 none 0).2 _) ?_
                         intro av cv w6 hk6 hb6
                         have HP6 : Hid _ := (HP5.out _).over hb6 HNW.out.2.2
                         have HF6 : Hid _ := (HF5.out _).over hb6
                         have HK6 : Hid _ := hk6
                         obtain ⟨n0, n1, n2, n3, n4, n5, n6, n7⟩ := box8 HP6.out.box
                         obtain ⟨f0, f1, f2, f3, f4, f5, f6, f7⟩ := box_froz HP6.out.box
                         clear hk6 hb6 n6w n6v n6d n6a)
                      | (go_simp
                         go_wp2_with (go_at_call 88; refine (td5_list _ _ _ _ _ _ (by simp) HPd.out.cx.cur).mono ?_; rintro e w5 ⟨tx, htx, rfl, hc5, hb5⟩; have htz := small6.2.2 tx htx; have HPW : Hid (Ph w w5 cb mb len cap a m2 nb #[.int .i64 1, .string pr, .string lo, .string u, .slice ga DS.length c, .slice aa L.length ac, .slice ka P.length kc, .string ⟨#[]⟩]) := (HPd.out).but hc5 hb5; have n6w : w5.cell? ⟨nb, 6, none⟩ = some (.slice ka P.length kc) := (box8 HPW.out.box).2.2.2.2.2.2.1; have HP5 : Hid (∀ o, Ph w (w5.alloc o) cb mb len cap a m2 nb _) := fun o => HPW.out.below ((Below.refl _ _).alloc (Nat.le_refl _) o); have n6v : ∀ o, (w5.alloc o).cell? ⟨nb, 6, none⟩ = some (.slice ka P.length kc) := fun o => (box8 (HP5.out o).box).2.2.2.2.2.2.1; have HF5 : Hid (∀ o, Fr cb mb nb W2.heap.size W2 (w5.alloc o)) := fun o => (HFd.out.out (Nat.le_refl _) (out_but hb5)).below (Nat.le_refl _) ((Below.refl _ _).alloc (Nat.le_refl _) o); have HK5 : Hid (∀ o, KidR (w5.alloc o) W2.heap.size (.slice ka P.length kc) P G) := fun o => (HKd.out.out (F := Fm cb mb) (out_but hb5) (fun b (hf : b = cb ∨ b = mb) => by have := HNW.out; omega)).below ((Below.refl _ _).alloc (Nat.le_refl _) o); have HS5 : Hid (∀ o, W2.heap.size ≤ (w5.alloc o).heap.size) := fun o => (HF5.out o).size; clear hc5 hb5 htx)))
                    all_goals
                      clear n0 n1 n2 n3 n4 n5 n6 n7 f0 f1 f2 f3 f4 f5 f6 f7
                      go_wp2
                      go_roundw
                      case rel =>
                        have hl1 : (P ++ [(Tree.mk 4 ⟨#[]⟩ ⟨#[116]⟩ ⟨#[]⟩ tx [] [] [], Hdr.mk none 0 none 0 none 0)]).length = P.length + 1 := by rw [List.length_append]; rfl
                        exact ⟨i - 1, av, cv, P ++ [(Tree.mk 4 ⟨#[]⟩ ⟨#[116]⟩ ⟨#[]⟩ tx [] [] [], Hdr.mk none 0 none 0 none 0)], (fun i' => if i' = P.length then fun _ => False else G i'), m2, by omega, by omega, by rw [hl1]; omega, by omega, by go_num, sz_kid hsz.out hm1 (Nat.le_refl m2) (by rw [leaf_sz]; show 1 + tx.size + 1 ≤ _; omega), by rw [hl1]; exact HK6.out.set HNW.out.2.2, by rw [hl1]; exact HP6.out.set 6 _, HF6.out.set 6 _⟩
                      case measure => simp [intOf]; omega
                  · have HGr : Hid (∀ i b, G i b → b < w3.heap.size) := fun i b hb => (HK3.out.rng i b hb).2
                    have HVr : Hid (∀ g, (Value.slice ka P.length kc).ownBlock = some g → g < w3.heap.size) := fun g e => (World.ownsRow.lt HK3.out.own g e).2
                    have hE := HIH.out m2 (by omega) w3 cb mb len cap a (some ⟨g4, 0, none⟩) AL c4 (by have := HLL.out; omega) HP3.out.cx ⟨HF3.out.pairs HNW.out.1.1 HNW.out.1.2 HAL2.out (fun b off e => by cases e; exact HG2.out), HAF.out, fun b off e => by cases e; have := HG2.out; have := HNW.out; exact ⟨by omega, by omega⟩⟩
                    unfold ElOk vals at hE
                    go_wp2_with fail
                    refine hE.mono ?_
                    clear hE
                    rintro e w4 ⟨t, h, m', rfl, hN, hk1, hm', hsz4, hcx, hout, _⟩
                    have HP4 : Hid (Ph w w4 cb mb len cap a m' nb #[.int .i64 1, .string pr, .string lo, .string u, .slice ga DS.length c, .slice aa L.length ac, .slice ka P.length kc, .string ⟨#[]⟩]) := HP3.out.turn hcx hout
                    have HF4 : Hid (Fr cb mb nb W2.heap.size W2 w4) := HF3.out.out (Nat.le_refl _) hout
                    have HK4 : Hid (KidR w4 W2.heap.size (.slice ka P.length kc) P G) := HK3.out.out (F := Fm cb mb) hout (fun b (hf : b = cb ∨ b = mb) => by have := HNW.out; omega)
                    have HN4 : Hid (OwnN w4 t h (Rng w3 w4)) := hN
                    have HO4 : Hid (w3.heap.size ≤ w4.heap.size ∧ W2.heap.size ≤ w3.heap.size) := ⟨hout.size, HF3.out.size⟩
                    have HSZ : Hid (nszs (trees1 (P ++ [(t, h)])) ≤ 8000 * (m - m')) := sz_kid hsz.out hm1 hm' hsz4
                    have HPA : Hid (∀ o, Ph w (w4.alloc o) cb mb len cap a m' nb _) := fun o => HP4.out.below ((Below.refl _ _).alloc (Nat.le_refl _) o)
                    have n6a : ∀ o, (w4.alloc o).cell? ⟨nb, 6, none⟩ = some (.slice ka P.length kc) := fun o => (box8 (HPA.out o).box).2.2.2.2.2.2.1
                    have HBA : Hid (∀ o o', Below w4.heap.size w4 ((w4.alloc o).alloc o')) := fun o o' => ((Below.refl _ _).alloc (Nat.le_refl _) o).alloc (by simp) o'
                    have HX4 : Hid (∀ o, (w4.alloc o).heap.size = w4.heap.size + 1) := fun o => World.size_alloc _ _
                    have HBS : Hid (∀ o o', W2.heap.size ≤ ((w4.alloc o).alloc o').heap.size) := fun o o' => by have := HO4.out; have := (HBA.out o o').size; omega
                    have HFF : Hid (∀ o o', Inc (Rng w3 w4) (fun b => W2.heap.size ≤ b ∧ b < ((w4.alloc o).alloc o').heap.size)) := fun o o' b hb => by have := HO4.out; have := (HBA.out o o').size; have h1 := hb.1; have h2 := hb.2; exact ⟨by omega, by omega⟩
                    have HFG : Hid (∀ g, (Value.slice ka P.length kc).ownBlock = some g → ¬ Rng w3 w4 g) := fun g e hb => by have := HVr.out g e; have h1 := hb.1; omega
                    have HFA : Hid (∀ i, Apart (G i) (Rng w3 w4)) := fun i b hb hc => by have := HGr.out i b hb; have h1 := hc.1; omega
                    clear hN hcx hout hsz4 HP3 HF3 HK3 hk1
                    go_wp2_with (at_builtin; refine add_kid W2.heap.size (.slice ka P.length kc) _ P G (t, h) (Rng w3 w4) (HK4.out.below (HBA.out _ _)) (HBS.out _ _) (by omega) (HN4.out.below (HBA.out _ _)) (HFF.out _ _) HFG.out HFA.out (by rfl) _ _ (by rfl) (by rfl) (by rfl) (cells_new_at (w4.alloc _) t h _ _ (by simp)) ?_; rintro av cv w6 hk6 hb6; have HP6 : Hid _ := (HP4.out.below (HBA.out _ _)).over hb6 HNW.out.2.2; have HF6 : Hid _ := (HF4.out.below (Nat.le_refl _) (HBA.out _ _)).over hb6; have HK6 : Hid _ := hk6; obtain ⟨n0, n1, n2, n3, n4, n5, n6, n7⟩ := box8 HP6.out.box; obtain ⟨f0, f1, f2, f3, f4, f5, f6, f7⟩ := box_froz HP6.out.box; clear hk6 hb6)
                    go_roundw
                    case rel =>
                      have hl1 : (P ++ [(t, h)]).length = P.length + 1 := by rw [List.length_append]; rfl
                      exact ⟨i - 1, av, cv, P ++ [(t, h)], (fun i' => if i' = P.length then Rng w3 w4 else G i'), m', by omega, by omega, by rw [hl1]; omega, by omega, by go_num, HSZ.out, by rw [hl1]; exact HK6.out.set HNW.out.2.2, by rw [hl1]; exact HP6.out.set 6 _, HF6.out.set 6 _⟩
                    case measure => simp [intOf]; omega
theorem el_any (m : Nat) (hm : m ≤ 100) : ∀ (w : World) (cb mb len cap : Nat) (a ia : Option Addr) (IN : List Pair) (ic : Nat), IN.length + 3 * (m + 1) ≤ 3000000 → Cx w cb mb len cap a m → InAt w cb mb ia IN → ElOk w cb mb len cap a ia IN ic m := by
  induction m using Nat.strongRecOn with
  | ind m ih =>
    intro w cb mb len cap a ia IN ic hl hx hi
    exact el_of m (fun m1 h1 => ih m1 h1 (by omega)) w cb mb len cap a ia IN ic hl hm hx hi
end Go.Proofs.Ytpejcblmglbjfaa.draws
