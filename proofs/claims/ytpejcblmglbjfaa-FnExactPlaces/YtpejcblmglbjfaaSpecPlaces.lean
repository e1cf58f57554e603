/-
  What the specification's Places answers.
-/
import Derived.Test.YtpejcblmglbjfaaPathRow
namespace Go.Proofs.Ytpejcblmglbjfaa.places
open Go.ChangeShapes Go.WideShapes Go.ChangeAt Go.RowKit
open trees (Tree Hdr vals noTree kid nsz nszs tsize ksize NodeIn NodesAt Bset Inc Apart Out Rng)
open ints (int0 okI IFit IntsAt MadeI)
set_option linter.unusedVariables false
/-- All paths of t, that stands at p, in a row of the call's own. -/
def PlacesOk (f : Nat) (t : Tree) (h : Hdr) (p : List Int) (a : Option Addr) (c : Nat) (w : World) : Prop :=
  Calls Try.prog f #[.agg (vals t h), .slice a p.length c] w fun e w' => (∃ g c' S, e = .returned (.slice (some ⟨g, 0, none⟩) (pathsT p t).length c') ∧ RowQ w' w.heap.size g (pathsT p t).length c' S ∧ PathsIn w' w.heap.size S (pathsT p t)) ∧ Below w.heap.size w w'
theorem fit_snoc {p : List Int} {k : Nat} (h : PFit p) (hl : p.length + 1 ≤ 1048576) (hk : k ≤ 1048576) : PFit (p ++ [(k : Int)]) := by
  refine ⟨by rw [List.length_append]; exact hl, fun x hx => ?_⟩
  rw [List.mem_append] at hx
  rcases hx with hx | hx
  · exact h.2 x hx
  · have : x = (k : Int) := by simpa using hx
    subst this
    exact ⟨by omega, by omega⟩
set_option maxRecDepth 100000 in
set_option maxHeartbeats 8000000 in
theorem spec_places_of (n B : Nat) (ih : ∀ t h p a c w, tsize t < n → p.length + nsz t ≤ 1048576 → PFit p → IntsAt w a p → NodeIn w B t h → PlacesOk 78 t h p a c w) (t : Tree) (h : Hdr) (p : List Int) (a : Option Addr) (c : Nat) (w : World) (ht : tsize t ≤ n) (hz : p.length + nsz t ≤ 1048576) (hf : PFit p) (hp : IntsAt w a p) (hn : NodeIn w B t h) : PlacesOk 78 t h p a c w := by
  have HIH : Hid _ := ih
  have HP : Hid (IntsAt w a p) := hp
  have HF : Hid (PFit p) := hf
  have HN : Hid (NodesAt w B h.ka t.kids) := trees.kids_at hn
  have HZ : Hid (p.length + nsz t ≤ 1048576) := hz
  have HZK : Hid (nszs t.kids ≤ nsz t) := nsz_eq t
  have HZT : Hid (ksize t.kids < n) := by cases t; rw [tsize] at ht; show _ < _; simp only [Tree.kids]; omega
  have HIS : Hid (pathsT p t = p :: pathsTs p 0 t.kids) := paths_eq p t
  have HLN : Hid ((pathsT p t).length ≤ 1 + nsz t) := paths_len p t
  clear ih hp hf hn ht
  unfold PlacesOk
  obtain ⟨I, hI⟩ : ∃ I, pathsT p t = I := ⟨_, rfl⟩
  rw [hI] at HIS HLN ⊢
  clear hI
  obtain ⟨kd, pr, lo, ur, tx, ds, ats, ks⟩ := t
  obtain ⟨da, dc, aa, ac, ka, kc⟩ := h
  unfold vals at *
  simp only [Tree.kind, Tree.pre, Tree.loc, Tree.uri, Tree.text, Tree.ds, Tree.ats, Tree.kids] at *
  have hkl : ks.length ≤ 1048576 := by have := HZK.out; have := HZ.out; have := trees.nszs_eq ks; omega
  have hpl : p.length ≤ 1048576 := HF.out.1
  obtain ⟨d, hd⟩ : ∃ d, p.length = d := ⟨_, rfl⟩
  have HD : Hid (p.length = d) := hd
  rw [hd] at hpl ⊢
  clear hd hz
  have HB2 : Hid (Below w.heap.size w (w.alloc (.cells #[.int .i64 kd, .string pr, .string lo, .string ur, .slice da ds.length dc, .slice aa ats.length ac, .slice ka ks.length kc, .string tx] 28))) := (Below.refl _ _).alloc (Nat.le_refl _) _
  have HX1 : Hid ((w.alloc (.cells #[.int .i64 kd, .string pr, .string lo, .string ur, .slice da ds.length dc, .slice aa ats.length ac, .slice ka ks.length kc, .string tx] 28)).heap[w.heap.size]? = _) := heap_alloc_new w (.cells #[.int .i64 kd, .string pr, .string lo, .string ur, .slice da ds.length dc, .slice aa ats.length ac, .slice ka ks.length kc, .string tx] 28)
  go_enter Try.func78, Try.ntmps78
  obtain ⟨W2, hW2⟩ : ∃ W2, (w.alloc (.cells #[.int .i64 kd, .string pr, .string lo, .string ur, .slice da ds.length dc, .slice aa ats.length ac, .slice ka ks.length kc, .string tx] 28)) = W2 := ⟨_, rfl⟩
  rw [hW2] at HB2 HX1
  have HR0 : Hid (RowI (W2.alloc (.cells #[] 3)) W2.heap.size W2.heap.size 0 0 []) := new_rowI W2
  have HA0 : Hid (Below W2.heap.size W2 (W2.alloc (.cells #[] 3))) := (Below.refl _ _).alloc (Nat.le_refl _) _
  have HP0 : Hid (IntsAt (W2.alloc (.cells #[] 3)) a p) := HP.out.below (Nat.le_refl _) (HB2.out.trans (HA0.out.mono HB2.out.size))
  have hs0 := HA0.out.size
  go_wp2_with (at_builtin; refine app_path W2.heap.size W2.heap.size p a d c HR0.out HP0.out HD.out (by omega) hs0 (by rfl) _ _ (by rfl) (by rfl) (by rfl) ?_; rintro g3 c3 w3 hR3 hb3 hs3)
  have HR3 : Hid _ := hR3
  have HB3 : Hid (Below W2.heap.size W2 w3) := HA0.out.trans hb3
  have hs3' := HB3.out.size
  clear hR3 hb3 hs3 hs0
  go_wp2_with fail
  have HQ0 : Hid (RowQ (w3.alloc (.cells #[.slice (some ⟨g3, 0, none⟩) d c3] 32)) W2.heap.size w3.heap.size 1 1 [.slice (some ⟨g3, 0, none⟩) d c3]) := one_row w3 _ _ _ hs3' rfl
  have HA3 : Hid (Below w3.heap.size w3 (w3.alloc (.cells #[.slice (some ⟨g3, 0, none⟩) d c3] 32))) := (Below.refl _ _).alloc (Nat.le_refl _) _
  have HPI : Hid (PathsIn (w3.alloc (.cells #[.slice (some ⟨g3, 0, none⟩) d c3] 32)) W2.heap.size [.slice (some ⟨g3, 0, none⟩) d c3] [p]) := (PathsIn.one HR3.out.path).below HA3.out
  have HB4 : Hid (Below W2.heap.size W2 (w3.alloc (.cells #[.slice (some ⟨g3, 0, none⟩) d c3] 32))) := HB3.out.trans (HA3.out.mono HB3.out.size)
  obtain ⟨W4, hW4⟩ : ∃ W4, w3.alloc (.cells #[.slice (some ⟨g3, 0, none⟩) d c3] 32) = W4 := ⟨_, rfl⟩
  rw [hW4] at HQ0 HPI HB4 ⊢
  clear hW4 hW2 HA3 HR3 HB3
  have HL0 : Hid (p :: pathsTs p 0 (ks.take 0) = [p]) := rfl
  go_loopw [5, 6] (fun q t wr => ∃ (k g m c : Nat) (S : List Value) (L : List (List Int)), k ≤ ks.length ∧ m ≤ 1048577 ∧ t = .int .i64 k ∧ q = .slice (some ⟨g, 0, none⟩) m c ∧ Hid (p :: pathsTs p 0 (ks.take k) = L) ∧ Hid (RowQ wr W2.heap.size g m c S) ∧ Hid (PathsIn wr W2.heap.size S L) ∧ Hid (Below W2.heap.size W2 wr)) (fun _ t _ => ks.length - (intOf t).toNat)
  case atStart => exact ⟨0, _, 1, 1, _, _, Nat.zero_le _, by omega, rfl, rfl, HL0, HQ0, HPI, HB4⟩
  case round =>
    obtain ⟨k, g, m, c, S, L, hk, hm, rfl, rfl, hL, hR, hPI, hbw⟩ := hrel
    have HBW : Hid (Below w.heap.size w wr) := HB2.out.trans (hbw.out.mono HB2.out.size)
    obtain ⟨a0, a1, a2, a3, a4, a5, a6, a7⟩ := trees.box8 (box_bel HX1.out hbw.out)
    by_cases hlt : k < ks.length
    · obtain ⟨b, off, ha, hblt, hc⟩ := HN.out.row (by omega)
      obtain ⟨hd, hnode, hc0, hc1, hc2, hc3, hc4, hc5, hc6, hc7⟩ := hc k hlt
      have hks := trees.ksize_kid ks k hlt
      have hkz := nsz_kid1 ks k hlt
      have hnode2 := fun W (hb : Below wr.heap.size wr W) => hnode.below (HBW.out.trans (hb.mono HBW.out.size))
      obtain ⟨y, hy⟩ : ∃ y, kid ks k = y := ⟨_, rfl⟩
      have HNX : Hid (pathsTs p 0 (ks.take (k + 1)) = pathsTs p 0 (ks.take k) ++ pathsT (p ++ [(k : Int)]) y) := by show _ = _; rw [← hy]; exact paths_next p hlt
      rw [hy] at hc0 hc1 hc2 hc3 hc4 hc5 hc6 hc7 hks hkz hnode2
      have HZY : Hid ((p ++ [(k : Int)]).length + nsz y ≤ 1048576 ∧ PFit (p ++ [(k : Int)]) ∧ (p ++ [(k : Int)]).length = d + 1) := by
        have e1 := HZK.out
        have e2 := HZ.out
        have e3 : (p ++ [(k : Int)]).length = p.length + 1 := by rw [List.length_append]; rfl
        exact ⟨by rw [e3]; omega, fit_snoc HF.out (by omega) (by omega), by rw [e3, HD.out]⟩
      have HML : Hid (m + (pathsT (p ++ [(k : Int)]) y).length ≤ 1048577) := by
        have e1 := HLN.out
        rw [HIS.out, List.length_cons] at e1
        have e2 : ks = ks.take (k + 1) ++ ks.drop (k + 1) := (List.take_append_drop _ _).symm
        have e3 : (pathsTs p 0 (ks.take (k + 1))).length ≤ (pathsTs p 0 ks).length := by
          have := pathss_mono p ks (k + 1)
          exact this
        rw [HNX.out, List.length_append] at e3
        have e4 := hR.out.len
        have e5 := hPI.out.len
        rw [← hL.out, List.length_cons] at e5
        have e6 := HZ.out
        show _ ≤ _
        omega
      have HCALL : Hid (∀ W a c, Below wr.heap.size wr W → IntsAt W a (p ++ [(k : Int)]) → PlacesOk 78 y hd (p ++ [(k : Int)]) a c W) := fun W a c hb hi => HIH.out y hd _ a c W (by have := HZT.out; omega) HZY.out.1 HZY.out.2.1 hi (hnode2 W hb)
      unfold PlacesOk vals at HCALL
      subst ha
      have hr8 : ∀ W, Below wr.heap.size wr W → W.cell? ⟨b, off + k * 8, none⟩ = some (.int .i64 y.kind) ∧ W.cell? ⟨b, off + k * 8 + 1, none⟩ = some (.string y.pre) ∧ W.cell? ⟨b, off + k * 8 + 2, none⟩ = some (.string y.loc) ∧ W.cell? ⟨b, off + k * 8 + 3, none⟩ = some (.string y.uri) ∧ W.cell? ⟨b, off + k * 8 + 4, none⟩ = some (.slice hd.da y.ds.length hd.dc) ∧ W.cell? ⟨b, off + k * 8 + 5, none⟩ = some (.slice hd.aa y.ats.length hd.ac) ∧ W.cell? ⟨b, off + k * 8 + 6, none⟩ = some (.slice hd.ka y.kids.length hd.kc) ∧ W.cell? ⟨b, off + k * 8 + 7, none⟩ = some (.string y.text) := fun W h => by
        have hk' := (h.block b (Nat.lt_of_lt_of_le hblt HBW.out.size)).trans (HBW.out.block b hblt)
        rw [trees.cell_keep hk', trees.cell_keep hk', trees.cell_keep hk', trees.cell_keep hk', trees.cell_keep hk', trees.cell_keep hk', trees.cell_keep hk', trees.cell_keep hk']
        exact ⟨hc0, hc1, hc2, hc3, hc4, hc5, hc6, hc7⟩
      have HR8 : Hid _ := hr8
      have HRR : Hid (RowI (wr.alloc (.cells #[] 3)) wr.heap.size wr.heap.size 0 0 []) := new_rowI wr
      have HA4 : Hid (Below wr.heap.size wr (wr.alloc (.cells #[] 3))) := (Below.refl _ _).alloc (Nat.le_refl _) _
      have HP4 : Hid (IntsAt (wr.alloc (.cells #[] 3)) a p) := HP.out.below (Nat.le_refl _) (HBW.out.trans (HA4.out.mono HBW.out.size))
      have hs4 := HA4.out.size
      clear hc hnode hnode2 hks hkz hy hc0 hc1 hc2 hc3 hc4 hc5 hc6 hc7 hr8
      go_wp2_with (at_builtin; first | (refine app_path wr.heap.size wr.heap.size p a d _ HRR.out HP4.out HD.out (by omega) hs4 (by rfl) _ _ (by rfl) (by rfl) (by rfl) ?_; rintro g5 c5 w5 hR5 hb5 hs5; have HR5 : Hid _ := hR5; have HB5 : Hid (Below wr.heap.size wr w5) := HA4.out.trans hb5; have hs5' := HB5.out.size; clear hR5 hb5 hs5 hs4 a0 a1 a2 a3 a4 a5 a6 a7) | (refine add_int wr.heap.size g5 d c5 p (k : Int) _ HR5.out hs5' (by omega) (by rfl) _ _ (by rfl) (by rfl) _ (by rfl) (by simp) ?_; rintro g6 c6 w6 hR6 hb6 hs6; have HR6 : Hid _ := hR6; have HB6 : Hid (Below wr.heap.size wr w6) := HB5.out.trans hb6; have HI6 : Hid (IntsAt w6 (some ⟨g6, 0, none⟩) (p ++ [(k : Int)])) := hR6.made.ints HZY.out.2.1.at.1 HZY.out.2.1.at.2; obtain ⟨a0, a1, a2, a3, a4, a5, a6, a7⟩ := trees.box8 (box_bel HX1.out (hbw.out.trans (HB6.out.mono hbw.out.size))); obtain ⟨e0, e1, e2, e3, e4, e5, e6, e7⟩ := HR8.out w6 HB6.out; clear hR6 hb6 hs6 hs5' HR5 HB5))
      obtain ⟨P2, hP2⟩ : ∃ P2, p ++ [(k : Int)] = P2 := ⟨_, rfl⟩
      rw [hP2] at HR6 HI6 HCALL HNX HML HZY
      have hpl2 : P2.length = d + 1 := HZY.out.2.2
      rw [hpl2] at HCALL
      clear hP2
      refine Calls.mono (HCALL.out _ _ _ HB6.out HI6.out) ?_
      rintro e w7 ⟨⟨g7, c7, S7, rfl, hQ7, hP7⟩, hb7⟩
      have HQ7 : Hid _ := hQ7
      have HP7 : Hid _ := hP7
      have HB7 : Hid (Below wr.heap.size wr w7) := HB6.out.trans (hb7.mono HB6.out.size)
      have HBX : Hid (Below W2.heap.size W2 w7) := hbw.out.trans (HB7.out.mono hbw.out.size)
      have HW6 : Hid (W2.heap.size ≤ w6.heap.size) := Nat.le_trans hbw.out.size HB6.out.size
      obtain ⟨Y, hY⟩ : ∃ Y, pathsT P2 y = Y := ⟨_, rfl⟩
      rw [hY] at HQ7 HP7 HML HNX ⊢
      have HR7 : Hid (RowQ w7 W2.heap.size g m c S) := hR.out.below HB7.out
      have HPP : Hid (PathsIn w7 W2.heap.size (S ++ S7) (L ++ Y)) := (hPI.out.below HB7.out).app (HP7.out.mono HW6.out)
      have HLL : Hid (p :: pathsTs p 0 (ks.take (k + 1)) = L ++ Y) := by show _ = _; rw [HNX.out, ← List.cons_append, hL.out]
      have hml : m + Y.length ≤ 1048577 := HML.out
      have hsx := HBX.out.size
      clear hQ7 hP7 hb7 hY a0 a1 a2 a3 a4 a5 a6 a7 e0 e1 e2 e3 e4 e5 e6 e7
      go_wp2_with (at_builtin; refine app_rows W2.heap.size g m c S _ g7 Y.length c7 S7 HR7.out HQ7.out HP7.out.cells (by omega) hsx (by rfl) _ _ (by rfl) (by rfl) (by rfl) ?_; rintro g8 c8 w8 hR8 hb8 hs8 hg8)
      have HRN : Hid _ := hR8
      have HBN : Hid (Below W2.heap.size W2 w8) := HBX.out.trans hb8
      have HPN : Hid (PathsIn w8 W2.heap.size (S ++ S7) (L ++ Y)) := HPP.out.grown HR7.out hg8
      clear hR8 hb8 hs8 hg8
      go_wp2
      go_roundw
      case rel => exact ⟨k + 1, g8, m + Y.length, c8, S ++ S7, L ++ Y, by omega, hml, by go_num, rfl, HLL.out, HRN.out, HPN.out, HBN.out⟩
      case measure => simp [intOf]; omega
    · obtain rfl : k = ks.length := by omega
      have HIL : Hid (I = L) := by
        have := hL.out
        rw [List.take_length, ← HIS.out] at this
        exact this
      have HLM : Hid (m = L.length) := by have e1 := hR.out.len; have e2 := hPI.out.len; show _ = _; omega
      go_wp2
      go_ret
      have hIL := HIL.out
      subst hIL
      have hlm := HLM.out
      subst hlm
      exact ⟨⟨g, c, S, rfl, hR.out.mono HB2.out.size, hPI.out.mono HB2.out.size⟩, HBW.out⟩
theorem spec_places (B : Nat) : ∀ n, ∀ (t : Tree) (h : Hdr) (p : List Int) (a : Option Addr) (c : Nat) (w : World), tsize t < n → p.length + nsz t ≤ 1048576 → PFit p → IntsAt w a p → NodeIn w B t h → PlacesOk 78 t h p a c w
  | 0, t, h, p, a, c, w, ht, _, _, _, _ => by omega
  | n + 1, t, h, p, a, c, w, ht, hz, hf, hp, hn => spec_places_of n B (fun t h p a c w x y z u v => spec_places B n t h p a c w x y z u v) t h p a c w (by omega) hz hf hp hn
--@if f:spec.Places
set_option maxRecDepth 100000 in
set_option maxHeartbeats 4000000 in
/-- What the specification's Places answers: a row of all paths, of the call's own. -/
theorem spec_all (B : Nat) (t : Tree) (h : Hdr) (w : World) (hz : nsz t ≤ 1048576) (hn : NodeIn w B t h) :
    Calls Try.prog 42 #[.agg (vals t h)] w fun e w' => (∃ g c' S, e = .returned (.slice (some ⟨g, 0, none⟩) (pathsT [] t).length c') ∧ RowQ w' w.heap.size g (pathsT [] t).length c' S ∧ PathsIn w' w.heap.size S (pathsT [] t)) ∧ Below w.heap.size w w' := by
  have HB : Hid (∀ o o', Below w.heap.size w ((w.alloc o).alloc o')) := fun o o' => ((Below.refl _ _).alloc (Nat.le_refl _) o).alloc (by simp) o'
  have H1 : Hid (∀ a c W, Below w.heap.size w W → IntsAt W a [] → PlacesOk 78 t h [] a c W) := fun a c W hb hi => spec_places B _ t h [] a c W (Nat.lt_succ_self _) (by simpa using hz) ⟨by simp, fun x hx => by cases hx⟩ hi (hn.below hb)
  clear hn
  unfold PlacesOk at H1
  obtain ⟨I, hI⟩ : ∃ I, pathsT [] t = I := ⟨_, rfl⟩
  rw [hI] at H1 ⊢
  clear hI
  obtain ⟨kd, pr, lo, ur, tx, ds, ats, ks⟩ := t
  obtain ⟨da, dc, aa, ac, ka, kc⟩ := h
  unfold vals at *
  simp only [Tree.kind, Tree.pre, Tree.loc, Tree.uri, Tree.text, Tree.ds, Tree.ats, Tree.kids] at *
  go_enter Try.func42, Try.ntmps42
  go_wp2_with fail
  refine Calls.mono (H1.out _ _ _ (HB.out _ _) ⟨fun h => absurd h (by simp), by simp, fun i hi => by cases hi⟩) ?_
  rintro e w1 ⟨⟨g, c, S, rfl, hR, hP⟩, hb⟩
  have HB1 : Hid (Below w.heap.size w w1) := (HB.out _ _).trans (hb.mono (HB.out _ _).size)
  have HR : Hid (RowQ w1 w.heap.size g I.length c S) := hR.mono (HB.out _ _).size
  have HP : Hid (PathsIn w1 w.heap.size S I) := hP.mono (HB.out _ _).size
  clear hb hR hP
  go_wp2
  go_ret
  exact ⟨⟨g, c, S, rfl, HR.out, HP.out⟩, HB1.out⟩
--@end
end Go.Proofs.Ytpejcblmglbjfaa.places
