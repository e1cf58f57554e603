/-
  The program's reader of marks: what stands between two marks, what opens an element, and one mark.
-/
import Derived.Test.YtehdpkigfjjbaaaGreatDoorImplRead2
namespace Go.Proofs.YtehdpkigfjjbaaaGreatDoor.cuts
open Go.ChangeShapes Go.WideShapes Go.ChangeAt Go.RowKit
open names (splitT nameE)
open marks (blanksE)
open pairs (Pair at0 PairsAt)
open trees (Rng Out Bset)
set_option linter.unusedVariables false
theorem gr_drew {w w1 : World} {b : Nat} (h : w.grownBy w1 (some b)) : w.grownBy w1.drew (some b) := gr_trans h (gr_below (Below.refl _ _).drew)
theorem tillE_ge (s : ByteArray) (a : Nat) (h : a ≤ s.size) : a ≤ tillE s a ∧ tillE s a ≤ s.size := by
  unfold tillE
  cases hj : toI s ⟨#[60]⟩ a with
  | none => exact ⟨h, Nat.le_refl _⟩
  | some j => have := toF_ge hj; show a ≤ j ∧ j ≤ s.size; exact ⟨this.1, by omega⟩
theorem till_none {s : ByteArray} {a : Nat} (h : toI s ⟨#[60]⟩ a = none) : tillE s a = s.size := by unfold tillE; rw [h]
theorem till_some {s : ByteArray} {a j : Nat} (h : toI s ⟨#[60]⟩ a = some j) : tillE s a = j := by unfold tillE; rw [h]
theorem between_has {s x : ByteArray} {a : Nat} {L : List Pair} (hx : s.extract a (tillE s a) = x) (h : trees.hasB x ⟨#[93, 93, 62]⟩ = true) : betweenE s a L = none := by
  unfold betweenE
  rw [hx, if_neg (fun h' => by rw [h] at h'; exact absurd h'.1 (by decide))]
theorem between_no {s x y : ByteArray} {a : Nat} {L : List Pair} (hx : s.extract a (tillE s a) = x) (h : refs.expandR x L = (y, false)) : betweenE s a L = none := by
  unfold betweenE
  rw [hx, h, if_neg (fun h' => Bool.noConfusion (show false = true from h'.2))]
theorem between_yes {s x y : ByteArray} {a k : Nat} {L : List Pair} (hk : tillE s a = k) (hx : s.extract a k = x) (hh : trees.hasB x ⟨#[93, 93, 62]⟩ = false) (h : refs.expandR x L = (y, true)) : betweenE s a L = some (⟨3, ⟨#[]⟩, [], false, y⟩, k) := by
  unfold betweenE
  rw [hk, hx, h, if_pos ⟨hh, rfl⟩]
set_option maxRecDepth 100000 in
set_option maxHeartbeats 4000000 in
theorem rd_between (s : ByteArray) (a b : Nat) (w0 : World) (ad : Option Addr) (L : List Pair) (c : Nat) (w : World) (hs : s.size ≤ 1048576) (hv : ∀ i, i < L.length → (at0 L i).2.size ≤ 1048576) (ha : a ≤ s.size) (hE : Env w0 w b ad L) (hR : Rm w b s a ad L.length c) : Calls Tryz.prog 46 #[.pointer (some ⟨b, 0, none⟩)] w fun e w' => mOk (chk (betweenE s a L)) s b ad L.length c w w' e ∧ w.grownBy w' (some b) := by
  have HE0 : Hid (Env w0 w b ad L) := hE
  have HR0 : Hid (Rm w b s a ad L.length c) := hR
  have hbl := hR.lt
  have hne : w.heap.size ≠ b := by omega
  obtain ⟨M, hM⟩ : ∃ M, chk (betweenE s a L) = M := ⟨_, rfl⟩
  rw [hM]
  obtain ⟨hag, hale⟩ := tillE_ge s a ha
  obtain ⟨t, ht⟩ : ∃ t, tillE s a = t := ⟨_, rfl⟩
  rw [ht] at hag hale
  obtain ⟨x, hx⟩ : ∃ x, s.extract a t = x := ⟨_, rfl⟩
  have HXS : Hid (x.size = t - a) := by show _ = _; rw [← hx, ByteArray.size_extract]; omega
  have hxz : x.size ≤ 1048576 := by have := HXS.out; omega
  have HTA : Hid (a ≤ t ∧ t ≤ s.size) := ⟨hag, hale⟩
  have hcutE : ∃ y ok, ∀ W, frames.MaxAt W → Calls Tryz.prog 68 #[.string (s.extract a s.size), .string ⟨#[60]⟩] W fun e w' => e = .returned (.tuple #[.string x, .string y, .bool ok]) ∧ Below W.heap.size W w' := by
    cases hj : toI s ⟨#[60]⟩ a with
    | none =>
      refine ⟨⟨#[]⟩, false, fun W hm => ?_⟩
      have h := cut_none s ⟨#[60]⟩ a W hs (by decide) hm hj
      rw [show s.extract a s.size = x by rw [← hx, ← ht, till_none hj]] at h ⊢
      exact h
    | some j =>
      refine ⟨s.extract (j + (⟨#[60]⟩ : ByteArray).size) s.size, true, fun W hm => ?_⟩
      have h := cut_some s ⟨#[60]⟩ a j W hs (by decide) hm hj
      rw [show s.extract a j = x by rw [← hx, ← ht, till_some hj]] at h
      exact h
  obtain ⟨y0, ok0, hcut0⟩ := hcutE
  have HCUT : Hid (∀ W, frames.MaxAt W → _) := hcut0
  have hcut : ∀ W, (Instr.slice 9 (.string s) (some (.int .i64 (a : Int))) none none).run Tryz.prog W = .ok (.string (s.extract a s.size)) W := fun W => by
    have : (a : Int) ≤ s.size := by omega
    simp [go_sem, this]
  obtain ⟨z, ok, hz⟩ : ∃ z ok, refs.expandR x L = (z, ok) := ⟨_, _, rfl⟩
  obtain ⟨v, hv1⟩ : ∃ v, trees.hasB x ⟨#[93, 93, 62]⟩ = v := ⟨_, rfl⟩
  have H2 : Hid (∀ W, frames.MaxAt W → _) := fun W h => trees.contains_H x ⟨#[93, 93, 62]⟩ v hxz hv1 W h
  have HVT : Hid (v = true → M = none) := fun e => hM.symm.trans (chk_none (between_has (x := x) (by rw [ht]; exact hx) (hv1.trans e)))
  have HON : Hid (ok = false → M = none) := fun e => hM.symm.trans (chk_none (between_no (x := x) (y := z) (by rw [ht]; exact hx) (by rw [hz, e])))
  have HOY : Hid (v = false → ok = true → M = some (⟨3, ⟨#[]⟩, [], false, z⟩, t)) := fun e1 e2 => hM.symm.trans (chk_yes (between_yes ht hx (hv1.trans e1) (show refs.expandR x L = (z, true) by rw [hz, e2])) (ex_size (n := 0) hz e2).2)
  have HZ : Hid _ := hz
  have HV : Hid _ := hv
  clear hE hR hM ht hx hz hv1 hv hcut0 hag hale
  go_enter Tryz.func46, Tryz.ntmps46
  go_wp2_with fail
  have HE1 : Hid (Env w0 (w.alloc (.cells #[.int .i64 0, .string ⟨#[]⟩, .slice none 0 0, .bool false, .string ⟨#[]⟩] 26)) b ad L) := HE0.out.below ((Below.refl _ _).alloc (Nat.le_refl _) _)
  have HR1 : Hid (Rm (w.alloc (.cells #[.int .i64 0, .string ⟨#[]⟩, .slice none 0 0, .bool false, .string ⟨#[]⟩] 26)) b s a ad L.length c) := HR0.out.below ((Below.refl _ _).alloc (Nat.le_refl _) _)
  have HX1 : Hid ((w.alloc (.cells #[.int .i64 0, .string ⟨#[]⟩, .slice none 0 0, .bool false, .string ⟨#[]⟩] 26)).heap[w.heap.size]? = _) := heap_alloc_new w _
  have HG1 : Hid (w.grownBy (w.alloc (.cells #[.int .i64 0, .string ⟨#[]⟩, .slice none 0 0, .bool false, .string ⟨#[]⟩] 26)) (some b)) := gr_alloc (pairs.grown_refl _ _)
  obtain ⟨W1, hW1⟩ : ∃ W1, w.alloc (.cells #[.int .i64 0, .string ⟨#[]⟩, .slice none 0 0, .bool false, .string ⟨#[]⟩] 26) = W1 := ⟨_, rfl⟩
  rw [hW1] at HE1 HR1 HX1 HG1 ⊢
  clear hW1
  have hl : ∀ W, Below W1.heap.size W1 W → W.cell? ⟨b, 0, none⟩ = some (.string s) ∧ W.cell? ⟨b, 1, none⟩ = some (.int .i64 (a : Int)) := fun W h => ⟨(HR1.out.below h).cells.1, (HR1.out.below h).cells.2.1⟩
  refine quiets.wp_region_below (by kernel_rfl) (by kernel_rfl) ?_
  repeat (go_big_quiet_step ((first | (intro hq; rfl) | (intro hq; simp [go_sem, (hl _ hq).1]; rfl) | (intro hq; simp [go_sem, (hl _ hq).2]; rfl) | (intro hq; rw [hcut]; rfl) | (intro hq; exact quiets.below_call (HCUT.out _ (HE1.out.below hq).xt.max) hq))))
  refine wpQuiet_nil ?_
  intro w2 hb2
  have HE2 : Hid _ := HE1.out.below hb2
  have HR2 : Hid _ := HR1.out.below hb2
  have HG2 : Hid _ := gr_trans HG1.out (gr_below hb2)
  have HX2 : Hid _ := gr_obj (gr_below (b := b) hb2) HX1.out hne
  clear hb2 hl hcut
  go_wp2_with fail
  refine Calls.mono (H2.out _ HE2.out.xt.max) ?_
  rintro e w3 ⟨rfl, hb3⟩
  have HE3 : Hid _ := HE2.out.below hb3
  have HR3 : Hid _ := HR2.out.below hb3
  have HG3 : Hid _ := gr_trans HG2.out (gr_below hb3)
  have HX3 : Hid _ := gr_obj (gr_below (b := b) hb3) HX2.out hne
  clear hb3
  cases v
  · obtain ⟨c0, c1, f0, f1⟩ := HR3.out.cells
    have HR4 : Hid (Rm (w3.setCell ⟨b, 1, none⟩ (.int .i64 ((a : Int) + (x.size : Int)))) b s t ad L.length c) := by
      have := HR3.out.set t
      rw [show ((t : Nat) : Int) = (a : Int) + (x.size : Int) by have := HXS.out; have := HTA.out; omega] at this
      exact this
    have HG4 : Hid (w.grownBy (w3.setCell ⟨b, 1, none⟩ (.int .i64 ((a : Int) + (x.size : Int)))) (some b)) := gr_set HG3.out
    have HE4 : Hid (Env w0 (w3.setCell ⟨b, 1, none⟩ (.int .i64 ((a : Int) + (x.size : Int)))) b ad L) := HE3.out.step (pairs.grown_set _ _ _ _)
    have HX4 : Hid ((w3.setCell ⟨b, 1, none⟩ (.int .i64 ((a : Int) + (x.size : Int)))).heap[w.heap.size]? = _) := gr_obj (pairs.grown_set _ _ _ _) HX3.out hne
    cases ok
    · have HN : Hid (M = none) := HON.out rfl
      have H3 : Hid (∀ W, Env w0 W b ad L → Rm W b s t ad L.length c → _) := fun W h1 h2 => exp_noI hxz HV.out HZ.out h1 h2
      go_wp2_with (first | (go_at_call 19; refine Calls.mono (must_yes _ _) ?_; rintro e w_ ⟨rfl, hw_⟩; have hw3 := hw_.symm; clear hw_; subst hw3) | fail)
      refine Calls.mono (H3.out _ HE4.out HR4.out) ?_
      rintro e w5 ⟨rfl, hg⟩
      have HG5 : Hid _ := gr_trans HG4.out hg
      clear hg
      go_wp2
      exact ⟨rfl, m_none HN.out rfl, HG5.out⟩
    · have HN : Hid (M = some (⟨3, ⟨#[]⟩, [], false, z⟩, t)) := HOY.out rfl rfl
      have H3 : Hid (∀ W, Env w0 W b ad L → Rm W b s t ad L.length c → _) := fun W h1 h2 => exp_yesI hxz HV.out HZ.out h1 h2
      go_wp2_with (first | (go_at_call 19; refine Calls.mono (must_yes _ _) ?_; rintro e w_ ⟨rfl, hw_⟩; have hw3 := hw_.symm; clear hw_; subst hw3) | fail)
      refine Calls.mono (H3.out _ HE4.out HR4.out) ?_
      rintro e w5 ⟨rfl, hr, hg⟩
      have HG5 : Hid _ := gr_trans HG4.out hg
      have HR5 : Hid _ := hr
      have HX5 : Hid _ := gr_obj hg HX4.out hne
      clear hg hr c0 c1 f0 f1
      obtain ⟨⟨o0, o1, o2, o3, o4⟩, q0, q1, q2, q3, q4⟩ := box5 HX5.out
      go_wp2
      refine bodyPost_ret (by simp [results, Tryz.results46, go_sem, o0, o1, o2, o3, o4]; try rfl) rfl ?_
      exact ⟨m_plain HN.out rfl (rd_five HR5.out hne), gr_five HG5.out (Nat.le_refl _)⟩
  · have HN : Hid (M = none) := HVT.out rfl
    go_wp2_with (go_at_call 19; refine Calls.mono (must_no _ _) ?_; rintro e w_ ⟨rfl, hw_⟩; have hw3 := hw_.symm; clear hw_; subst hw3)
    exact ⟨rfl, m_none HN.out rfl, HG3.out⟩
/-- append of one Raw to a row of the call's own, as a step of a region that draws its order. -/
theorem step_raw {ops : Array Oper} {o : Oper} {a : Act} {W : World} {K : Act → World → Prop} {Q : Exit → Act → World → Prop} {E : Prop}
    (hg : o.guard = none) (s x : Operand) (hop : o.op = Op.call { callee := Callee.builtin Builtin.append, args := #[s, x], argTypes := #[24, 24] })
    (B : Nat) (v : Value) (R : List Pair) (n y : ByteArray) (g : Nat) (hs : a.eval s = v) (hx : a.eval x = .slice (some ⟨g, 0, none⟩) 1 1) (hown : pairs.OwnP 70 W B v R) (hz : R.length + 1 ≤ 1000000) (hB : B ≤ W.heap.size) (hc : W.cell? ⟨g, 0, none⟩ = some (.string n) ∧ W.cell? ⟨g, 1, none⟩ = some (.string y))
    (hK : ∀ av cv w', pairs.OwnP 70 w' B (.slice av (R.length + 1) cv) (R ++ [(n, y)]) → W.heap.size ≤ w'.heap.size → (∀ k, k < B → w'.heap[k]? = W.heap[k]?) → w'.os = W.os → w'.tape = W.tape → w'.output = W.output → K (a.put o.dst (.slice av (R.length + 1) cv)) w') :
    if Region.wanted o (yielded ops a.tmps) = true then Oper.wp Tryz.prog o a W K Q else E := by
  have hw : Region.wanted o (yielded ops a.tmps) = true := by simp [Region.wanted, hg]
  rw [if_pos hw]
  obtain ⟨i0, hi, hz0, hz1, hz2⟩ := info_parts pairs.infoO_Raw
  obtain ⟨v', w', hrun, ho, hgr, _⟩ := run_append_own (P := Tryz.prog) (w := W) B 24 o.type 70 i0 (.agg #[.string ⟨#[]⟩, .string ⟨#[]⟩]) 2 32 Tryz.underlying24 hi hz0 hz1 hz2 rfl (by decide) v R.length (pairs.cellsOf R) hown ⟨g, 0, none⟩ 1 1 (pairs.cellsOf [(n, y)]) (pairs.cellsOf_len _) (fun j u hj => by
    rw [show (⟨g, 0, none⟩ : Addr).add j = ⟨g, j, none⟩ by rw [Addr.add_lit, Nat.zero_add]]
    match j, hj with
    | 0, hj => rw [hc.1]; exact hj
    | 1, hj => rw [hc.2]; exact hj
    | j + 2, hj => cases hj) (pairs.cells_one _) (by unfold maxLen; omega) (by omega) hB
  have ho' : pairs.OwnP 70 w' B v' (R ++ [(n, y)]) := by unfold pairs.OwnP; rw [pairs.cellsOf_append, List.length_append]; exact ho
  obtain ⟨av, cv, rfl⟩ := own_shape ho'
  rw [List.length_append] at ho' hrun
  unfold Oper.wp
  simp [execOp, hop, resolve, invoke, builtin, hs, hx, hrun, Result.andThen]
  exact hK av cv w' ho' hgr.size (fun k hk => hgr.block k (Nat.lt_of_lt_of_le hk hB) (fun e => by
    have := (World.ownsRow.lt hown k e.symm).1
    omega)) hgr.os hgr.tape hgr.output
/-- What a round of opening keeps. -/
structure PRel (w0 w wr : World) (mb b : Nat) (s : ByteArray) (k : Nat) (ad : Option Addr) (L : List Pair) (c : Nat) (n : ByteArray) (v : Value) (R : List Pair) : Prop where
  res : wr.heap[w.heap.size]? = some (.cells #[.int .i64 0, .string ⟨#[]⟩, .slice none 0 0, .bool false, .string ⟨#[]⟩] 26 (0, 0))
  box : wr.heap[mb]? = some (.cells #[.int .i64 1, .string n, v, .bool false, .string ⟨#[]⟩] 26 (0, 0))
  own : pairs.OwnP 70 wr (mb + 1) v R
  gr : w.grownBy wr (some b)
  rd : Rm wr b s k ad L.length c
  env : Env w0 wr b ad L
  bb : b < w.heap.size
  gt : w.heap.size < mb
  lt : mb < wr.heap.size
theorem own_grown {t : TypeId} {w w' : World} {B b : Nat} {v : Value} {R : List Pair} (h : pairs.OwnP t w B v R) (hg : w.grownBy w' (some b)) (hb : b < B) : pairs.OwnP t w' B v R :=
  World.ownsRow.kept h (row := some b) hg (by
    rcases h.2 with ⟨rfl, _⟩ | ⟨g', cap, cur, rfl, h0, _⟩
    · simp [Value.ownBlock]
    · simp only [Value.ownBlock, ne_eq, Option.some.injEq]; omega)
theorem PRel.step {w0 w wr w2 : World} {mb b : Nat} {s : ByteArray} {k j : Nat} {ad : Option Addr} {L : List Pair} {c : Nat} {n : ByteArray} {v : Value} {R : List Pair} (h : PRel w0 w wr mb b s k ad L c n v R) (hg : wr.grownBy w2 (some b)) (hr : Rm w2 b s j ad L.length c) : PRel w0 w w2 mb b s j ad L c n v R := by
  have h1 := h.bb
  have h2 := h.gt
  exact ⟨gr_obj hg h.res (by omega), gr_obj hg h.box (by omega), own_grown h.own hg (by omega), gr_trans h.gr hg, hr, h.env.step hg, h.bb, h.gt, Nat.lt_of_lt_of_le h.lt hg.size⟩
theorem PRel.below {w0 w wr w2 : World} {mb b : Nat} {s : ByteArray} {k : Nat} {ad : Option Addr} {L : List Pair} {c : Nat} {n : ByteArray} {v : Value} {R : List Pair} (h : PRel w0 w wr mb b s k ad L c n v R) (hb : Below wr.heap.size wr w2) : PRel w0 w w2 mb b s k ad L c n v R := h.step (gr_below hb) (h.rd.below hb)
theorem PRel.add {w0 w wr w5 : World} {mb b : Nat} {s : ByteArray} {k : Nat} {ad : Option Addr} {L : List Pair} {c : Nat} {n : ByteArray} {v v' : Value} {R R' : List Pair} (h : PRel w0 w wr mb b s k ad L c n v R) (ho : pairs.OwnP 70 w5 (mb + 1) v' R') (hs : wr.heap.size ≤ w5.heap.size) (hk : ∀ k, k < mb + 1 → w5.heap[k]? = wr.heap[k]?) (h1 : w5.os = wr.os) (h2 : w5.tape = wr.tape) (h3 : w5.output = wr.output) :
    PRel w0 w (w5.setCell ⟨mb, 2, none⟩ v') mb b s k ad L c n v' R' ∧ w5.cell? ⟨mb, 2, none⟩ = some v ∧ w5.frozen? ⟨mb, 2, none⟩ = false := by
  have hgt := h.gt
  have hbb := h.bb
  have hge := h.env.ge
  have hlt := h.lt
  have hb : Below (mb + 1) wr w5 := ⟨h1, h2, h3, hs, fun k hk' => hk k hk'⟩
  have hb2 : Below (w.heap.size) wr (w5.setCell ⟨mb, 2, none⟩ v') := (hb.mono (by omega)).setCell (p := ⟨mb, 2, none⟩) (by show w.heap.size ≤ mb; omega) _
  have hbox : w5.heap[mb]? = some (.cells #[.int .i64 1, .string n, v, .bool false, .string ⟨#[]⟩] 26 (0, 0)) := (hk mb (by omega)).trans h.box
  have hres : w5.heap[w.heap.size]? = _ := (hk _ (by omega)).trans h.res
  refine ⟨⟨?_, ?_, own_set ho (by omega), ?_, ⟨?_⟩, ?_, hbb, hgt, ?_⟩, ?_, ?_⟩
  · rw [Below.heap_setCell w5 ⟨mb, 2, none⟩ v' _ (by show w.heap.size ≠ mb; omega)]; exact hres
  · rw [pairs.block_set v' hbox]; rfl
  · exact ⟨hb2.os.trans h.gr.os, hb2.tape.trans h.gr.tape, hb2.output.trans h.gr.output, Nat.le_trans h.gr.size hb2.size, fun i hi hne => (hb2.block i hi).trans (h.gr.block i hi hne)⟩
  · rw [Below.heap_setCell w5 ⟨mb, 2, none⟩ v' _ (by show b ≠ mb; omega)]; exact (hk b (by omega)).trans h.rd.blk
  · exact ⟨h.env.tab, h.env.row, h.env.ge, h.env.bel.trans (hb2.mono (by omega))⟩
  · rw [trees.size_setCell]; exact Nat.lt_of_lt_of_le h.lt hs
  · simp [World.cell?, hbox]
  · simp [World.frozen?, hbox]
theorem m_good {r : Option (MarkV × Nat)} {s : ByteArray} {b : Nat} {ad : Option Addr} {n c : Nat} {w w' : World} {e : Ending} {m : MarkV} {j : Nat} (h : r = some (m, j)) (he : ∃ a' c', e = .returned (mkV m a' c') ∧ trees.OwnP w' a' m.raws (Rng w w')) (hR : Rm w' b s j ad n c) : mOk r s b ad n c w w' e := by subst h; exact ⟨he, hR⟩
structure QRel (w0 w wr : World) (mb b : Nat) (s : ByteArray) (k : Nat) (ad : Option Addr) (L : List Pair) (c : Nat) (n : ByteArray) (v : Value) (R : List Pair) (bb : Bool) : Prop where
  res : wr.heap[w.heap.size]? = some (.cells #[.int .i64 0, .string ⟨#[]⟩, .slice none 0 0, .bool false, .string ⟨#[]⟩] 26 (0, 0))
  box : wr.heap[mb]? = some (.cells #[.int .i64 1, .string n, v, .bool bb, .string ⟨#[]⟩] 26 (0, 0))
  own : pairs.OwnP 70 wr (mb + 1) v R
  gr : w.grownBy wr (some b)
  rd : Rm wr b s k ad L.length c
  bl : b < w.heap.size
  gt : w.heap.size < mb
theorem PRel.flag {w0 w wr : World} {mb b : Nat} {s : ByteArray} {k : Nat} {ad : Option Addr} {L : List Pair} {c : Nat} {n : ByteArray} {v : Value} {R : List Pair} (h : PRel w0 w wr mb b s k ad L c n v R) (bb : Bool) : QRel w0 w (wr.setCell ⟨mb, 3, none⟩ (.bool bb)) mb b s k ad L c n v R bb := by
  have hgt := h.gt
  have hbb := h.bb
  refine ⟨?_, ?_, own_set h.own (by omega), gr_set2 h.gr (by omega), rd_set2 h.rd (by omega), hbb, hgt⟩
  · rw [Below.heap_setCell wr ⟨mb, 3, none⟩ _ _ (by show w.heap.size ≠ mb; omega)]; exact h.res
  · rw [pairs.block_set _ h.box]; rfl
theorem QRel.step {w0 w wr w2 : World} {mb b : Nat} {s : ByteArray} {k j : Nat} {ad : Option Addr} {L : List Pair} {c : Nat} {n : ByteArray} {v : Value} {R : List Pair} {bb : Bool} (h : QRel w0 w wr mb b s k ad L c n v R bb) (hg : wr.grownBy w2 (some b)) (hr : Rm w2 b s j ad L.length c) : QRel w0 w w2 mb b s j ad L c n v R bb := by
  have h1 := h.bl
  have h2 := h.gt
  exact ⟨gr_obj hg h.res (by omega), gr_obj hg h.box (by omega), own_grown h.own hg (by omega), gr_trans h.gr hg, hr, h.bl, h.gt⟩
theorem stands_H (T : TypeId) (s t : ByteArray) (k b : Nat) (rest : Array Value) (w : World) (v : Bool) (hs : s.size ≤ 1048576) (hk : k ≤ s.size) (ht : 0 < t.size) (hv : isAt s t k = v) (hR : Rd T w b s k rest) : Calls Tryz.prog 63 #[.pointer (some ⟨b, 0, none⟩), .string t] w fun e w' => e = .returned (.bool v) ∧ Below w.heap.size w w' := by
  have := cur_stands T s t k b rest w hs hk ht hR
  rw [hv] at this
  exact this
theorem byte_at {s : ByteArray} {c : UInt8} {k : Nat} (h : isAt s ⟨#[c]⟩ k = true) : s.get! k = c := by
  have hle : k + 1 ≤ s.size := isAt_le h
  have := isAt_byte s c k hle
  rw [h] at this
  exact UInt8.toNat_inj.1 (by have := of_decide_eq_true this.symm; omega)
theorem slash_only {s : ByteArray} {i : Nat} (h : isAt s ⟨#[47]⟩ i = true) : isAt s ⟨#[62]⟩ i = false := by
  have hle : i + 1 ≤ s.size := isAt_le h
  rw [isAt_byte s 62 i hle, byte_at h]
  rfl
theorem get_two (s : ByteArray) (k : Nat) (h : k + 1 < s.size) : s.extract k (k + 2) = ⟨#[s.get! k, s.get! (k + 1)]⟩ := by
  have e : s.extract k (k + 2) = s.extract k (k + 1) ++ s.extract (k + 1) (k + 2) := by
    rw [ByteArray.extract_append_extract]
    congr 1 <;> omega
  rw [e, get_one s k (by omega), get_one s (k + 1) h]
  rfl
theorem two_bytes (s : ByteArray) (x y : UInt8) (i : Nat) : isAt s ⟨#[x, y]⟩ i = (isAt s ⟨#[x]⟩ i && isAt s ⟨#[y]⟩ (i + 1)) := by
  by_cases h : i + 1 < s.size
  · rw [isAt_byte s x i (by omega), isAt_byte s y (i + 1) h, isAt_in (by show i + 2 ≤ s.size; omega)]
    show ((s.extract i (i + 2)).toList == _) = _
    rw [get_two s i h, ByteArray.toList_eq, ByteArray.toList_eq, Bool.eq_iff_iff]
    simp only [beq_iff_eq, Bool.and_eq_true, decide_eq_true_eq, List.cons.injEq, and_true]
    constructor
    · rintro ⟨e1, e2⟩; exact ⟨by rw [e1], by rw [e2]⟩
    · rintro ⟨e1, e2⟩; exact ⟨UInt8.toNat_inj.1 (by omega), UInt8.toNat_inj.1 (by omega)⟩
  · rw [isAt_out (t := ⟨#[x, y]⟩) (by show ¬ i + 2 ≤ s.size; omega), isAt_out (t := ⟨#[y]⟩) (by show ¬ i + 1 + 1 ≤ s.size; omega), Bool.and_false]
theorem slash_raw {s : ByteArray} {i : Nat} {L : List Pair} (h : isAt s ⟨#[47]⟩ i = true) : rawE s i L = none := by
  have hle : i + 1 ≤ s.size := isAt_le h
  have hx : ((s.get! i).toNat : Int) = 47 := by
    have := isAt_byte s 47 i hle
    rw [h] at this
    exact of_decide_eq_true this.symm
  have hn : nameE s i = i := by
    unfold nameE
    refine names.ends_stop s _ i ?_
    rintro ⟨_, _, hb⟩
    have hd : (Utf8.decode s i).1 = 47 := by
      rw [Lib.decode_at s i]
      unfold Lib.decodeN
      rw [if_pos (by omega)]
      show (s.get! i).toNat = 47
      omega
    rw [hd] at hb
    exact absurd hb (by decide +kernel)
  refine rawE_no ?_
  rw [hn]
  have : s.extract i i = ⟨#[]⟩ := by
    apply ByteArray.ext
    apply Array.eq_empty_of_size_eq_zero
    show (s.extract i i).size = 0
    rw [ByteArray.size_extract]; omega
  rw [this]
  decide +kernel
theorem two_at {s : ByteArray} {i : Nat} : isAt s ⟨#[47, 62]⟩ i = (isAt s ⟨#[47]⟩ i && isAt s ⟨#[62]⟩ (i + 1)) := two_bytes s 47 62 i
/-- How opening ends: behind the blanks at i nothing more comes. -/
theorem open_end {s : ByteArray} {L : List Pair} {f k i : Nat} {R : List Pair} (hf : s.size + 2 ≤ k + f) (hk : k ≤ s.size) (hi : blanksE s k = i) (h : i = k ∨ isAt s ⟨#[47]⟩ i = true ∨ isAt s ⟨#[62]⟩ i = true) (h2 : isAt s ⟨#[47, 62]⟩ i = false) (h1 : isAt s ⟨#[62]⟩ i = false) : openF s L f k R = none := by
  by_cases hik : i = k
  · exact openF_stuck hi h2 h1 hik
  · rcases h with h | h | h
    · exact absurd h hik
    · exact openF_none hi h2 h1 hik (slash_raw h)
    · rw [h] at h1; cases h1
set_option maxRecDepth 100000 in
set_option maxHeartbeats 8000000 in
theorem rd_opening (s : ByteArray) (a b : Nat) (w0 : World) (ad : Option Addr) (L : List Pair) (c : Nat) (w : World) (hs : s.size ≤ 1048576) (hv : ∀ i, i < L.length → (at0 L i).2.size ≤ 1048576) (ha : a + 1 ≤ s.size) (hE : Env w0 w b ad L) (hR : Rm w b s (a + 1) ad L.length c) : Calls Tryz.prog 45 #[.pointer (some ⟨b, 0, none⟩)] w fun e w' => mOk (chk (openE s a L)) s b ad L.length c w w' e ∧ w.grownBy w' (some b) := by
  have HE0 : Hid (Env w0 w b ad L) := hE
  have HR0 : Hid (Rm w b s (a + 1) ad L.length c) := hR
  have hbl := hR.lt
  have hne : w.heap.size ≠ b := by omega
  obtain ⟨M, hM⟩ : ∃ M, chk (openE s a L) = M := ⟨_, rfl⟩
  rw [hM]
  have HV : Hid _ := hv
  have HSZ : Hid (s.size ≤ 1048576) := hs
  have hkl := nameE_le s (a + 1) ha
  obtain ⟨k0, hk0⟩ : ∃ k0, nameE s (a + 1) = k0 := ⟨_, rfl⟩
  rw [hk0] at hkl
  obtain ⟨n, hn⟩ : ∃ n, s.extract (a + 1) k0 = n := ⟨_, rfl⟩
  by_cases hok : (splitT n).2.2 = true
  · have H1 : Hid (∀ W, Env w0 W b ad L → Rm W b s (a + 1) ad L.length c → _) := fun W h1 h2 => name_yes s n (a + 1) k0 b ad L.length c W hs ha hk0 hn hok h1.xt.tab.name h2
    have HBAD : Hid (openF s L (s.size + 2) k0 [] = none → M = none) := fun h => hM.symm.trans (chk_none (openE_bad (by rw [hk0, hn]; exact hok) hk0 h))
    have HGOOD : Hid (∀ R b j, openF s L (s.size + 2) k0 [] = some (R, b, j) → M = some (⟨1, n, R, b, ⟨#[]⟩⟩, j)) := fun R b j h => hM.symm.trans (chk_yes (openE_good (by rw [hk0, hn]; exact hok) hk0 hn h) text_nil)
    clear hE hR hM hk0 hn hok hv
    go_enter Tryz.func45, Tryz.ntmps45
    go_wp2_with fail
    refine Calls.mono (H1.out _ (HE0.out.below ((Below.refl _ _).alloc (Nat.le_refl _) _)) (HR0.out.below ((Below.refl _ _).alloc (Nat.le_refl _) _))) ?_
    rintro e w1 ⟨rfl, hr, hg⟩
    have HG1 : Hid (w.grownBy w1 (some b)) := gr_from hg
    have HX1 : Hid _ := gr_obj hg (heap_alloc_new w _) hne
    have HR1 : Hid _ := hr
    have hlt1 := lt_heap HX1.out
    clear hg hr
    go_wp2
    obtain ⟨mb, hmb⟩ : ∃ mb, w1.heap.size = mb := ⟨_, rfl⟩
    have HP0 : Hid (PRel w0 w (w1.alloc (.cells #[.int .i64 1, .string n, .slice none 0 0, .bool false, .string ⟨#[]⟩] 26)) mb b s k0 ad L c n (.slice none 0 0) []) := by
      subst hmb
      refine ⟨(Below.heap_alloc w1 _ _ hlt1).trans HX1.out, heap_alloc_new w1 _, ⟨rfl, .inl ⟨rfl, rfl⟩⟩, gr_alloc HG1.out, HR1.out.below ((Below.refl _ _).alloc (Nat.le_refl _) _), (HE0.out.step HG1.out).below ((Below.refl _ _).alloc (Nat.le_refl _) _), hbl, hlt1, by simp⟩
    rw [hmb]
    obtain ⟨W1, hW1⟩ : ∃ W1, w1.alloc (.cells #[.int .i64 1, .string n, .slice none 0 0, .bool false, .string ⟨#[]⟩] 26) = W1 := ⟨_, rfl⟩
    rw [hW1] at HP0 ⊢
    have hmw : w.heap.size < mb := by omega
    clear hW1 hmb hlt1 HX1 HR1 HG1
    go_loopw [10] (fun t wr => ∃ (k f : Nat) (v : Value) (R : List Pair), k ≤ s.size ∧ t = t ∧ Hid (openF s L (s.size + 2) k0 [] = openF s L f k R) ∧ Hid (s.size + 2 ≤ k + f) ∧ Hid (R.length * 2 ≤ k) ∧ Hid (PRel w0 w wr mb b s k ad L c n v R)) (fun _ wr => s.size - (intOf ((wr.cell? ⟨b, 1, none⟩).getD (.int .i64 0))).toNat)
    case atStart => exact ⟨k0, s.size + 2, _, [], hkl, rfl, rfl, by show s.size + 2 ≤ k0 + (s.size + 2); omega, by show 0 * 2 ≤ k0; omega, HP0⟩
    case round =>
      obtain ⟨k, f, v, R, hk, -, hO, hf, hRl, hP⟩ := hrel
      have hil : blanksE s k ≤ s.size := blanksE_le s k hk
      have hig : k ≤ blanksE s k := blanksE_ge s k
      obtain ⟨i, hi⟩ : ∃ i, blanksE s k = i := ⟨_, rfl⟩
      have HI : Hid (blanksE s k = i) := hi
      rw [hi] at hil hig
      have HEND : Hid ((i = k ∨ isAt s ⟨#[47]⟩ i = true ∨ isAt s ⟨#[62]⟩ i = true) → isAt s ⟨#[47, 62]⟩ i = false → isAt s ⟨#[62]⟩ i = false → M = none) := fun h h2 h1 => HBAD.out (hO.out.trans (open_end hf.out hk hi h h2 h1))
      have HTWO : Hid (isAt s ⟨#[47, 62]⟩ i = true → M = some (⟨1, n, R, true, ⟨#[]⟩⟩, i + 2)) := fun h => HGOOD.out R true (i + 2) (hO.out.trans (openF_two hf.out hk hi h))
      have HONE : Hid (isAt s ⟨#[47, 62]⟩ i = false → isAt s ⟨#[62]⟩ i = true → M = some (⟨1, n, R, false, ⟨#[]⟩⟩, i + 1)) := fun h h1 => HGOOD.out R false (i + 1) (hO.out.trans (openF_one hf.out hk hi h h1))
      have HMEAS : Hid (intOf ((wr.cell? ⟨b, 1, none⟩).getD (.int .i64 0)) = (k : Int)) := by show _ = _; rw [hP.out.rd.cells.2.1]; rfl
      by_cases hik : i = k
      · have H2 : Hid (∀ W, Rm W b s k ad L.length c → _) := fun W h2 => blanks_H _ s k i b _ W false hs hk hi (decide_eq_false (by omega)) h2
        have HX : Hid (i = k ∨ isAt s ⟨#[47]⟩ i = true ∨ isAt s ⟨#[62]⟩ i = true) := .inl hik
        clear hi
        go_wp2_with fail
        refine Calls.mono (H2.out _ hP.out.rd) ?_
        rintro e w2 ⟨rfl, hr, hg⟩
        have HP2 : Hid _ := hP.out.step hg hr
        clear hr hg
        cases v1 : isAt s ⟨#[47]⟩ i
        · have H6 : Hid (∀ W, Rm W b s i ad L.length c → _) := fun W h2 => take_H _ s ⟨#[47]⟩ i b _ W hs hil (by decide) false i v1 rfl h2
          have h2f : isAt s ⟨#[47, 62]⟩ i = false := by rw [two_at, v1]; rfl
          cases v2 : isAt s ⟨#[62]⟩ i
          · have H7 : Hid (∀ W, Rm W b s i ad L.length c → _) := fun W h2 => take_H _ s ⟨#[62]⟩ i b _ W hs hil (by decide) false i v2 rfl h2
            have HN : Hid (M = none) := HEND.out HX.out h2f v2
            clear v1 v2 h2f
            go_wp2_with fail
            refine Calls.mono (H6.out _ HP2.out.rd) ?_
            rintro e w8 ⟨rfl, hr, hg⟩
            have HP8 : Hid _ := HP2.out.step hg hr
            clear hr hg
            obtain ⟨⟨m0, m1, m2, m3, m4⟩, p0, p1, p2, p3, p4⟩ := box5 HP8.out.box
            have HQ8 : Hid (QRel w0 w (w8.setCell ⟨mb, 3, none⟩ (.bool false)) mb b s i ad L c n v R false) := HP8.out.flag false
            clear HP8
            go_wp2_with fail
            refine Calls.mono (H7.out _ HQ8.out.rd) ?_
            rintro e w9 ⟨rfl, hr, hg⟩
            have HQ9 : Hid _ := HQ8.out.step hg hr
            have HPY : Hid _ := HQ9.out.gr
            clear hr hg m0 m1 m2 m3 m4 p0 p1 p2 p3 p4
            go_wp2_with (go_at_call 19; refine Calls.mono (must_no _ _) ?_; rintro e w_ ⟨rfl, hw_⟩; have hw3 := hw_.symm; clear hw_; subst hw3)
            exact ⟨rfl, m_none HN.out rfl, HPY.out⟩
          · have H7 : Hid (∀ W, Rm W b s i ad L.length c → _) := fun W h2 => take_H _ s ⟨#[62]⟩ i b _ W hs hil (by decide) true (i + 1) v2 rfl h2
            have HN : Hid (M = some (⟨1, n, R, false, ⟨#[]⟩⟩, i + 1)) := HONE.out h2f v2
            clear v1 v2 h2f
            go_wp2_with fail
            refine Calls.mono (H6.out _ HP2.out.rd) ?_
            rintro e w8 ⟨rfl, hr, hg⟩
            have HP8 : Hid _ := HP2.out.step hg hr
            clear hr hg
            obtain ⟨⟨m0, m1, m2, m3, m4⟩, p0, p1, p2, p3, p4⟩ := box5 HP8.out.box
            have HQ8 : Hid (QRel w0 w (w8.setCell ⟨mb, 3, none⟩ (.bool false)) mb b s i ad L c n v R false) := HP8.out.flag false
            clear HP8
            go_wp2_with fail
            refine Calls.mono (H7.out _ HQ8.out.rd) ?_
            rintro e w9 ⟨rfl, hr, hg⟩
            have HQ9 : Hid _ := HQ8.out.step hg hr
            have HPY : Hid _ := HQ9.out.gr
            clear hr hg m0 m1 m2 m3 m4 p0 p1 p2 p3 p4
            obtain ⟨⟨m0, m1, m2, m3, m4⟩, p0, p1, p2, p3, p4⟩ := box5 HQ9.out.box
            obtain ⟨⟨o0, o1, o2, o3, o4⟩, q0, q1, q2, q3, q4⟩ := box5 HQ9.out.res
            obtain ⟨ar, cr, hvr, hor⟩ := own_row (w := w) HQ9.out.own (by omega) (out5 w w9 (.int .i64 1) (.string n) v (.bool false) (.string ⟨#[]⟩)) (fun b hb => by rw [hb]; omega)
            have HOR : Hid _ := hor
            clear hor
            subst hvr
            go_wp2_with (go_at_call 19; refine Calls.mono (must_yes _ _) ?_; rintro e w_ ⟨rfl, hw_⟩; have hw3 := hw_.symm; clear hw_; subst hw3)
            refine bodyPost_ret (by simp [results, Tryz.results45, go_sem, o0, o1, o2, o3, o4]; try rfl) rfl ?_
            exact ⟨m_good HN.out ⟨ar, cr, rfl, HOR.out⟩ (rd_five HQ9.out.rd hne), gr_five HPY.out (Nat.le_refl _)⟩
        · have hi1 : i + 1 ≤ s.size := isAt_le v1
          have H6 : Hid (∀ W, Rm W b s i ad L.length c → _) := fun W h2 => take_H _ s ⟨#[47]⟩ i b _ W hs hil (by decide) true (i + 1) v1 rfl h2
          cases v2 : isAt s ⟨#[62]⟩ (i + 1)
          · have H7 : Hid (∀ W, Rm W b s (i + 1) ad L.length c → _) := fun W h2 => take_H _ s ⟨#[62]⟩ (i + 1) b _ W hs hi1 (by decide) false (i + 1) v2 rfl h2
            have HN : Hid (M = none) := HEND.out (.inr (.inl v1)) (by rw [two_at, v1, v2]; rfl) (slash_only v1)
            clear v1 v2
            go_wp2_with fail
            refine Calls.mono (H6.out _ HP2.out.rd) ?_
            rintro e w8 ⟨rfl, hr, hg⟩
            have HP8 : Hid _ := HP2.out.step hg hr
            clear hr hg
            obtain ⟨⟨m0, m1, m2, m3, m4⟩, p0, p1, p2, p3, p4⟩ := box5 HP8.out.box
            have HQ8 : Hid (QRel w0 w (w8.setCell ⟨mb, 3, none⟩ (.bool true)) mb b s (i + 1) ad L c n v R true) := HP8.out.flag true
            clear HP8
            go_wp2_with fail
            refine Calls.mono (H7.out _ HQ8.out.rd) ?_
            rintro e w9 ⟨rfl, hr, hg⟩
            have HQ9 : Hid _ := HQ8.out.step hg hr
            have HPY : Hid _ := HQ9.out.gr
            clear hr hg m0 m1 m2 m3 m4 p0 p1 p2 p3 p4
            go_wp2_with (go_at_call 19; refine Calls.mono (must_no _ _) ?_; rintro e w_ ⟨rfl, hw_⟩; have hw3 := hw_.symm; clear hw_; subst hw3)
            exact ⟨rfl, m_none HN.out rfl, HPY.out⟩
          · have H7 : Hid (∀ W, Rm W b s (i + 1) ad L.length c → _) := fun W h2 => take_H _ s ⟨#[62]⟩ (i + 1) b _ W hs hi1 (by decide) true (i + 2) v2 rfl h2
            have HN : Hid (M = some (⟨1, n, R, true, ⟨#[]⟩⟩, i + 2)) := HTWO.out (by rw [two_at, v1, v2]; rfl)
            clear v1 v2
            go_wp2_with fail
            refine Calls.mono (H6.out _ HP2.out.rd) ?_
            rintro e w8 ⟨rfl, hr, hg⟩
            have HP8 : Hid _ := HP2.out.step hg hr
            clear hr hg
            obtain ⟨⟨m0, m1, m2, m3, m4⟩, p0, p1, p2, p3, p4⟩ := box5 HP8.out.box
            have HQ8 : Hid (QRel w0 w (w8.setCell ⟨mb, 3, none⟩ (.bool true)) mb b s (i + 1) ad L c n v R true) := HP8.out.flag true
            clear HP8
            go_wp2_with fail
            refine Calls.mono (H7.out _ HQ8.out.rd) ?_
            rintro e w9 ⟨rfl, hr, hg⟩
            have HQ9 : Hid _ := HQ8.out.step hg hr
            have HPY : Hid _ := HQ9.out.gr
            clear hr hg m0 m1 m2 m3 m4 p0 p1 p2 p3 p4
            obtain ⟨⟨m0, m1, m2, m3, m4⟩, p0, p1, p2, p3, p4⟩ := box5 HQ9.out.box
            obtain ⟨⟨o0, o1, o2, o3, o4⟩, q0, q1, q2, q3, q4⟩ := box5 HQ9.out.res
            obtain ⟨ar, cr, hvr, hor⟩ := own_row (w := w) HQ9.out.own (by omega) (out5 w w9 (.int .i64 1) (.string n) v (.bool true) (.string ⟨#[]⟩)) (fun b hb => by rw [hb]; omega)
            have HOR : Hid _ := hor
            clear hor
            subst hvr
            go_wp2_with (go_at_call 19; refine Calls.mono (must_yes _ _) ?_; rintro e w_ ⟨rfl, hw_⟩; have hw3 := hw_.symm; clear hw_; subst hw3)
            refine bodyPost_ret (by simp [results, Tryz.results45, go_sem, o0, o1, o2, o3, o4]; try rfl) rfl ?_
            exact ⟨m_good HN.out ⟨ar, cr, rfl, HOR.out⟩ (rd_five HQ9.out.rd hne), gr_five HPY.out (Nat.le_refl _)⟩
      · have H2 : Hid (∀ W, Rm W b s k ad L.length c → _) := fun W h2 => blanks_H _ s k i b _ W true hs hk hi (decide_eq_true (by omega)) h2
        clear hi
        cases h47 : isAt s ⟨#[47]⟩ i
        · have H3 : Hid (∀ W, Rm W b s i ad L.length c → _) := fun W h2 => stands_H _ s ⟨#[47]⟩ i b _ W false hs hil (by decide) h47 h2
          cases h62 : isAt s ⟨#[62]⟩ i
          · have H4 : Hid (∀ W, Rm W b s i ad L.length c → _) := fun W h2 => stands_H _ s ⟨#[62]⟩ i b _ W false hs hil (by decide) h62 h2
            have h2f : isAt s ⟨#[47, 62]⟩ i = false := by rw [two_at, h47]; rfl
            have HNR : Hid (rawE s i L = none → M = none) := fun h => HBAD.out (hO.out.trans (openF_none HI.out h2f h62 hik h))
            have HGR : Hid (∀ x1 x2 j, rawE s i L = some (x1, x2, j) → ∃ g, openF s L f k R = openF s L g j (R ++ [(x1, x2)]) ∧ s.size + 2 ≤ j + g ∧ j ≤ s.size ∧ k + 2 ≤ j) := fun x1 x2 j h => openF_go hf.out hk HI.out h2f h62 hik h
            clear h47 h62 h2f HEND HTWO HONE
            cases hr : rawE s i L with
            | none =>
              have HN : Hid (M = none) := HNR.out hr
              have H5 : Hid (∀ W, Env w0 W b ad L → Rm W b s i ad L.length c → _) := fun W h1 h2 => raw_no s i b w0 ad L c W hs HV.out hil hr h1 h2
              clear hr HNR HGR
              go_wp2_with fail
              refine Calls.mono (H2.out _ hP.out.rd) ?_
              rintro e w2 ⟨rfl, hr, hg⟩
              have HP2 : Hid _ := hP.out.step hg hr
              clear hr hg
              go_wp2_with fail
              refine Calls.mono (H3.out _ HP2.out.rd) ?_
              rintro e w3 ⟨rfl, hb⟩
              have HP3 : Hid _ := HP2.out.below hb
              clear hb
              go_wp2_with fail
              refine Calls.mono (H4.out _ HP3.out.rd) ?_
              rintro e w4 ⟨rfl, hb⟩
              have HP4 : Hid _ := HP3.out.below hb
              clear hb
              go_wp2_with fail
              have HPd : Hid _ := HP4.out.below (Below.refl _ _).drew
              have hvd : w4.drew.cell? ⟨mb, 2, none⟩ = some v := (box5 HPd.out.box).1.2.2.1
              refine wp_region_any (by kernel_rfl) ?_
              try (change wpAny _ _ _ _ _ _ _ (World.drew _))
              refine wpAny_take (i := 0) (v := ?v0) rfl (by kernel_rfl) (by kernel_rfl) (by kernel_rfl) (fun _ _ _ h => h) (Or.inl ⟨by rfl, ?y0⟩) ?r0
              case y0 => (intro w; go_simp; try with_reducible rfl)
              refine wpAny_take (i := 2) (v := ?v2) rfl (by kernel_rfl) (by kernel_rfl) (by kernel_rfl) (fun _ _ _ h => h) (Or.inl ⟨by rfl, ?y2⟩) ?r2
              case y2 => (intro w; go_simp; try with_reducible rfl)
              refine wpAny_ready (rs := [1, 3]) (by kernel_rfl) (by simp) ?_
              refine AllReady.cons rfl (fun K hK => ?_) ?_
              · go_simp
                refine hK _ _ ?_
                clear hK K
                refine wpAny_ready (rs := [3]) (by kernel_rfl) (by simp) ?_
                refine AllReady.cons rfl (fun K hK => ?_) ?_
                · go_simp; go_wp2_with (go_at_call 67; refine Calls.mono (H5.out _ HPd.out.env HPd.out.rd) ?_; rintro e w5 ⟨rfl, hg⟩; have HG5 : Hid _ := gr_trans HPd.out.gr hg; clear hg); exact ⟨rfl, m_none HN.out rfl, HG5.out⟩
                · exact AllReady.nil
              · refine AllReady.cons rfl (fun K hK => ?_) ?_
                · go_simp; go_wp2_with (go_at_call 67; refine Calls.mono (H5.out _ HPd.out.env HPd.out.rd) ?_; rintro e w5 ⟨rfl, hg⟩; have HG5 : Hid _ := gr_trans HPd.out.gr hg; clear hg); exact ⟨rfl, m_none HN.out rfl, HG5.out⟩
                · exact AllReady.nil
            | some y =>
              obtain ⟨x1, x2, j⟩ := y
              obtain ⟨g, hg1, hg2, hjl, hkj⟩ := HGR.out x1 x2 j hr
              have HG1 : Hid _ := hg1
              have HG2 : Hid _ := hg2
              have H5 : Hid (∀ W, Env w0 W b ad L → Rm W b s i ad L.length c → _) := fun W h1 h2 => raw_yes s i b w0 ad L c W hs HV.out x1 x2 j hil hr h1 h2
              clear hr HNR HGR hg1 hg2
              have hRl1 : R.length + 1 ≤ 1000000 := by have := hRl.out; omega
              have HR4L : Hid ((R ++ [(x1, x2)]).length * 2 ≤ j) := by have := hRl.out; show _ ≤ _; rw [List.length_append]; simp; omega
              go_wp2_with fail
              refine Calls.mono (H2.out _ hP.out.rd) ?_
              rintro e w2 ⟨rfl, hr, hg⟩
              have HP2 : Hid _ := hP.out.step hg hr
              clear hr hg
              go_wp2_with fail
              refine Calls.mono (H3.out _ HP2.out.rd) ?_
              rintro e w3 ⟨rfl, hb⟩
              have HP3 : Hid _ := HP2.out.below hb
              clear hb
              go_wp2_with fail
              refine Calls.mono (H4.out _ HP3.out.rd) ?_
              rintro e w4 ⟨rfl, hb⟩
              have HP4 : Hid _ := HP3.out.below hb
              clear hb
              go_wp2_with fail
              have HPd : Hid _ := HP4.out.below (Below.refl _ _).drew
              have hvd : w4.drew.cell? ⟨mb, 2, none⟩ = some v := (box5 HPd.out.box).1.2.2.1
              go_region_law (first
                | (refine step_raw rfl (.tmp 26) (.tmp 29) rfl (mb + 1) v R x1 x2 w5.heap.size (by simp [Act.eval]) (by simp [Act.eval]) (HP5.out.below ((Below.refl _ _).alloc (Nat.le_refl _) _)).own hRl1 (HP5.out.below ((Below.refl _ _).alloc (Nat.le_refl _) _)).lt ⟨pairs.cell_new w5 _ _ 0 _ rfl, pairs.cell_new w5 _ _ 1 _ rfl⟩ ?_
                   intro av cv w6 ho6 hs6 hk6 h61 h62 h63
                   obtain ⟨hr6, c6, f6⟩ := (HP5.out.below ((Below.refl _ _).alloc (Nat.le_refl _) _)).add ho6 hs6 hk6 h61 h62 h63
                   have HP6 : Hid (PRel w0 w (w6.setCell ⟨mb, 2, none⟩ (.slice av (R.length + 1) cv)) mb b s j ad L c n (.slice av (R.length + 1) cv) (R ++ [(x1, x2)])) := hr6
                   clear ho6 hs6 hk6 h61 h62 h63 hr6 hv5 hv5a)
                | (go_simp
                   go_wp2_with (go_at_call 67; refine Calls.mono (H5.out _ HPd.out.env HPd.out.rd) ?_; rintro e w5 ⟨rfl, hr, hg⟩; have HP5 : Hid _ := HPd.out.step hg hr; have hv5 : w5.cell? ⟨mb, 2, none⟩ = some v := (box5 HP5.out.box).1.2.2.1; have hv5a : ∀ o, (w5.alloc o).cell? ⟨mb, 2, none⟩ = some v := fun o => (box5 (HP5.out.below ((Below.refl _ _).alloc (Nat.le_refl _) o)).box).1.2.2.1; clear hg hr)))
              all_goals
                go_roundw
                case rel => exact ⟨_, _, _, _, _, _, _, _, _, _, _, _, _, _, _, _, _, _, _, _, _, _, _, _, _, ⟨j, g, _, _, hjl, rfl, hO.out.trans HG1.out, HG2.out, HR4L.out, HP6.out⟩, rfl⟩
                case measure =>
                  have h1 := HMEAS.out
                  have h2 : intOf (((w6.setCell ⟨mb, 2, none⟩ (.slice av (R.length + 1) cv)).cell? ⟨b, 1, none⟩).getD (.int .i64 0)) = (j : Int) := by rw [HP6.out.rd.cells.2.1]; rfl
                  show s.size - _ < s.size - _
                  rw [h1, h2]
                  omega
          · have H4 : Hid (∀ W, Rm W b s i ad L.length c → _) := fun W h2 => stands_H _ s ⟨#[62]⟩ i b _ W true hs hil (by decide) h62 h2
            have HX : Hid (i = k ∨ isAt s ⟨#[47]⟩ i = true ∨ isAt s ⟨#[62]⟩ i = true) := .inr (.inr h62)
            clear h47 h62
            go_wp2_with fail
            refine Calls.mono (H2.out _ hP.out.rd) ?_
            rintro e w2 ⟨rfl, hr, hg⟩
            have HP2 : Hid _ := hP.out.step hg hr
            clear hr hg
            go_wp2_with fail
            refine Calls.mono (H3.out _ HP2.out.rd) ?_
            rintro e w3 ⟨rfl, hb⟩
            have HP3 : Hid _ := HP2.out.below hb
            clear hb
            go_wp2_with fail
            refine Calls.mono (H4.out _ HP3.out.rd) ?_
            rintro e w4 ⟨rfl, hb⟩
            have HP4 : Hid _ := HP3.out.below hb
            clear hb
            go_wp2_with fail
            cases v1 : isAt s ⟨#[47]⟩ i
            · have H6 : Hid (∀ W, Rm W b s i ad L.length c → _) := fun W h2 => take_H _ s ⟨#[47]⟩ i b _ W hs hil (by decide) false i v1 rfl h2
              have h2f : isAt s ⟨#[47, 62]⟩ i = false := by rw [two_at, v1]; rfl
              cases v2 : isAt s ⟨#[62]⟩ i
              · have H7 : Hid (∀ W, Rm W b s i ad L.length c → _) := fun W h2 => take_H _ s ⟨#[62]⟩ i b _ W hs hil (by decide) false i v2 rfl h2
                have HN : Hid (M = none) := HEND.out HX.out h2f v2
                clear v1 v2 h2f
                go_wp2_with fail
                refine Calls.mono (H6.out _ HP4.out.rd) ?_
                rintro e w8 ⟨rfl, hr, hg⟩
                have HP8 : Hid _ := HP4.out.step hg hr
                clear hr hg
                obtain ⟨⟨m0, m1, m2, m3, m4⟩, p0, p1, p2, p3, p4⟩ := box5 HP8.out.box
                have HQ8 : Hid (QRel w0 w (w8.setCell ⟨mb, 3, none⟩ (.bool false)) mb b s i ad L c n v R false) := HP8.out.flag false
                clear HP8
                go_wp2_with fail
                refine Calls.mono (H7.out _ HQ8.out.rd) ?_
                rintro e w9 ⟨rfl, hr, hg⟩
                have HQ9 : Hid _ := HQ8.out.step hg hr
                have HPY : Hid _ := HQ9.out.gr
                clear hr hg m0 m1 m2 m3 m4 p0 p1 p2 p3 p4
                go_wp2_with (go_at_call 19; refine Calls.mono (must_no _ _) ?_; rintro e w_ ⟨rfl, hw_⟩; have hw3 := hw_.symm; clear hw_; subst hw3)
                exact ⟨rfl, m_none HN.out rfl, HPY.out⟩
              · have H7 : Hid (∀ W, Rm W b s i ad L.length c → _) := fun W h2 => take_H _ s ⟨#[62]⟩ i b _ W hs hil (by decide) true (i + 1) v2 rfl h2
                have HN : Hid (M = some (⟨1, n, R, false, ⟨#[]⟩⟩, i + 1)) := HONE.out h2f v2
                clear v1 v2 h2f
                go_wp2_with fail
                refine Calls.mono (H6.out _ HP4.out.rd) ?_
                rintro e w8 ⟨rfl, hr, hg⟩
                have HP8 : Hid _ := HP4.out.step hg hr
                clear hr hg
                obtain ⟨⟨m0, m1, m2, m3, m4⟩, p0, p1, p2, p3, p4⟩ := box5 HP8.out.box
                have HQ8 : Hid (QRel w0 w (w8.setCell ⟨mb, 3, none⟩ (.bool false)) mb b s i ad L c n v R false) := HP8.out.flag false
                clear HP8
                go_wp2_with fail
                refine Calls.mono (H7.out _ HQ8.out.rd) ?_
                rintro e w9 ⟨rfl, hr, hg⟩
                have HQ9 : Hid _ := HQ8.out.step hg hr
                have HPY : Hid _ := HQ9.out.gr
                clear hr hg m0 m1 m2 m3 m4 p0 p1 p2 p3 p4
                obtain ⟨⟨m0, m1, m2, m3, m4⟩, p0, p1, p2, p3, p4⟩ := box5 HQ9.out.box
                obtain ⟨⟨o0, o1, o2, o3, o4⟩, q0, q1, q2, q3, q4⟩ := box5 HQ9.out.res
                obtain ⟨ar, cr, hvr, hor⟩ := own_row (w := w) HQ9.out.own (by omega) (out5 w w9 (.int .i64 1) (.string n) v (.bool false) (.string ⟨#[]⟩)) (fun b hb => by rw [hb]; omega)
                have HOR : Hid _ := hor
                clear hor
                subst hvr
                go_wp2_with (go_at_call 19; refine Calls.mono (must_yes _ _) ?_; rintro e w_ ⟨rfl, hw_⟩; have hw3 := hw_.symm; clear hw_; subst hw3)
                refine bodyPost_ret (by simp [results, Tryz.results45, go_sem, o0, o1, o2, o3, o4]; try rfl) rfl ?_
                exact ⟨m_good HN.out ⟨ar, cr, rfl, HOR.out⟩ (rd_five HQ9.out.rd hne), gr_five HPY.out (Nat.le_refl _)⟩
            · have hi1 : i + 1 ≤ s.size := isAt_le v1
              have H6 : Hid (∀ W, Rm W b s i ad L.length c → _) := fun W h2 => take_H _ s ⟨#[47]⟩ i b _ W hs hil (by decide) true (i + 1) v1 rfl h2
              cases v2 : isAt s ⟨#[62]⟩ (i + 1)
              · have H7 : Hid (∀ W, Rm W b s (i + 1) ad L.length c → _) := fun W h2 => take_H _ s ⟨#[62]⟩ (i + 1) b _ W hs hi1 (by decide) false (i + 1) v2 rfl h2
                have HN : Hid (M = none) := HEND.out (.inr (.inl v1)) (by rw [two_at, v1, v2]; rfl) (slash_only v1)
                clear v1 v2
                go_wp2_with fail
                refine Calls.mono (H6.out _ HP4.out.rd) ?_
                rintro e w8 ⟨rfl, hr, hg⟩
                have HP8 : Hid _ := HP4.out.step hg hr
                clear hr hg
                obtain ⟨⟨m0, m1, m2, m3, m4⟩, p0, p1, p2, p3, p4⟩ := box5 HP8.out.box
                have HQ8 : Hid (QRel w0 w (w8.setCell ⟨mb, 3, none⟩ (.bool true)) mb b s (i + 1) ad L c n v R true) := HP8.out.flag true
                clear HP8
                go_wp2_with fail
                refine Calls.mono (H7.out _ HQ8.out.rd) ?_
                rintro e w9 ⟨rfl, hr, hg⟩
                have HQ9 : Hid _ := HQ8.out.step hg hr
                have HPY : Hid _ := HQ9.out.gr
                clear hr hg m0 m1 m2 m3 m4 p0 p1 p2 p3 p4
                go_wp2_with (go_at_call 19; refine Calls.mono (must_no _ _) ?_; rintro e w_ ⟨rfl, hw_⟩; have hw3 := hw_.symm; clear hw_; subst hw3)
                exact ⟨rfl, m_none HN.out rfl, HPY.out⟩
              · have H7 : Hid (∀ W, Rm W b s (i + 1) ad L.length c → _) := fun W h2 => take_H _ s ⟨#[62]⟩ (i + 1) b _ W hs hi1 (by decide) true (i + 2) v2 rfl h2
                have HN : Hid (M = some (⟨1, n, R, true, ⟨#[]⟩⟩, i + 2)) := HTWO.out (by rw [two_at, v1, v2]; rfl)
                clear v1 v2
                go_wp2_with fail
                refine Calls.mono (H6.out _ HP4.out.rd) ?_
                rintro e w8 ⟨rfl, hr, hg⟩
                have HP8 : Hid _ := HP4.out.step hg hr
                clear hr hg
                obtain ⟨⟨m0, m1, m2, m3, m4⟩, p0, p1, p2, p3, p4⟩ := box5 HP8.out.box
                have HQ8 : Hid (QRel w0 w (w8.setCell ⟨mb, 3, none⟩ (.bool true)) mb b s (i + 1) ad L c n v R true) := HP8.out.flag true
                clear HP8
                go_wp2_with fail
                refine Calls.mono (H7.out _ HQ8.out.rd) ?_
                rintro e w9 ⟨rfl, hr, hg⟩
                have HQ9 : Hid _ := HQ8.out.step hg hr
                have HPY : Hid _ := HQ9.out.gr
                clear hr hg m0 m1 m2 m3 m4 p0 p1 p2 p3 p4
                obtain ⟨⟨m0, m1, m2, m3, m4⟩, p0, p1, p2, p3, p4⟩ := box5 HQ9.out.box
                obtain ⟨⟨o0, o1, o2, o3, o4⟩, q0, q1, q2, q3, q4⟩ := box5 HQ9.out.res
                obtain ⟨ar, cr, hvr, hor⟩ := own_row (w := w) HQ9.out.own (by omega) (out5 w w9 (.int .i64 1) (.string n) v (.bool true) (.string ⟨#[]⟩)) (fun b hb => by rw [hb]; omega)
                have HOR : Hid _ := hor
                clear hor
                subst hvr
                go_wp2_with (go_at_call 19; refine Calls.mono (must_yes _ _) ?_; rintro e w_ ⟨rfl, hw_⟩; have hw3 := hw_.symm; clear hw_; subst hw3)
                refine bodyPost_ret (by simp [results, Tryz.results45, go_sem, o0, o1, o2, o3, o4]; try rfl) rfl ?_
                exact ⟨m_good HN.out ⟨ar, cr, rfl, HOR.out⟩ (rd_five HQ9.out.rd hne), gr_five HPY.out (Nat.le_refl _)⟩
        · have H3 : Hid (∀ W, Rm W b s i ad L.length c → _) := fun W h2 => stands_H _ s ⟨#[47]⟩ i b _ W true hs hil (by decide) h47 h2
          have HX : Hid (i = k ∨ isAt s ⟨#[47]⟩ i = true ∨ isAt s ⟨#[62]⟩ i = true) := .inr (.inl h47)
          clear h47
          go_wp2_with fail
          refine Calls.mono (H2.out _ hP.out.rd) ?_
          rintro e w2 ⟨rfl, hr, hg⟩
          have HP2 : Hid _ := hP.out.step hg hr
          clear hr hg
          go_wp2_with fail
          refine Calls.mono (H3.out _ HP2.out.rd) ?_
          rintro e w3 ⟨rfl, hb⟩
          have HP3 : Hid _ := HP2.out.below hb
          clear hb
          cases v1 : isAt s ⟨#[47]⟩ i
          · have H6 : Hid (∀ W, Rm W b s i ad L.length c → _) := fun W h2 => take_H _ s ⟨#[47]⟩ i b _ W hs hil (by decide) false i v1 rfl h2
            have h2f : isAt s ⟨#[47, 62]⟩ i = false := by rw [two_at, v1]; rfl
            cases v2 : isAt s ⟨#[62]⟩ i
            · have H7 : Hid (∀ W, Rm W b s i ad L.length c → _) := fun W h2 => take_H _ s ⟨#[62]⟩ i b _ W hs hil (by decide) false i v2 rfl h2
              have HN : Hid (M = none) := HEND.out HX.out h2f v2
              clear v1 v2 h2f
              go_wp2_with fail
              refine Calls.mono (H6.out _ HP3.out.rd) ?_
              rintro e w8 ⟨rfl, hr, hg⟩
              have HP8 : Hid _ := HP3.out.step hg hr
              clear hr hg
              obtain ⟨⟨m0, m1, m2, m3, m4⟩, p0, p1, p2, p3, p4⟩ := box5 HP8.out.box
              have HQ8 : Hid (QRel w0 w (w8.setCell ⟨mb, 3, none⟩ (.bool false)) mb b s i ad L c n v R false) := HP8.out.flag false
              clear HP8
              go_wp2_with fail
              refine Calls.mono (H7.out _ HQ8.out.rd) ?_
              rintro e w9 ⟨rfl, hr, hg⟩
              have HQ9 : Hid _ := HQ8.out.step hg hr
              have HPY : Hid _ := HQ9.out.gr
              clear hr hg m0 m1 m2 m3 m4 p0 p1 p2 p3 p4
              go_wp2_with (go_at_call 19; refine Calls.mono (must_no _ _) ?_; rintro e w_ ⟨rfl, hw_⟩; have hw3 := hw_.symm; clear hw_; subst hw3)
              exact ⟨rfl, m_none HN.out rfl, HPY.out⟩
            · have H7 : Hid (∀ W, Rm W b s i ad L.length c → _) := fun W h2 => take_H _ s ⟨#[62]⟩ i b _ W hs hil (by decide) true (i + 1) v2 rfl h2
              have HN : Hid (M = some (⟨1, n, R, false, ⟨#[]⟩⟩, i + 1)) := HONE.out h2f v2
              clear v1 v2 h2f
              go_wp2_with fail
              refine Calls.mono (H6.out _ HP3.out.rd) ?_
              rintro e w8 ⟨rfl, hr, hg⟩
              have HP8 : Hid _ := HP3.out.step hg hr
              clear hr hg
              obtain ⟨⟨m0, m1, m2, m3, m4⟩, p0, p1, p2, p3, p4⟩ := box5 HP8.out.box
              have HQ8 : Hid (QRel w0 w (w8.setCell ⟨mb, 3, none⟩ (.bool false)) mb b s i ad L c n v R false) := HP8.out.flag false
              clear HP8
              go_wp2_with fail
              refine Calls.mono (H7.out _ HQ8.out.rd) ?_
              rintro e w9 ⟨rfl, hr, hg⟩
              have HQ9 : Hid _ := HQ8.out.step hg hr
              have HPY : Hid _ := HQ9.out.gr
              clear hr hg m0 m1 m2 m3 m4 p0 p1 p2 p3 p4
              obtain ⟨⟨m0, m1, m2, m3, m4⟩, p0, p1, p2, p3, p4⟩ := box5 HQ9.out.box
              obtain ⟨⟨o0, o1, o2, o3, o4⟩, q0, q1, q2, q3, q4⟩ := box5 HQ9.out.res
              obtain ⟨ar, cr, hvr, hor⟩ := own_row (w := w) HQ9.out.own (by omega) (out5 w w9 (.int .i64 1) (.string n) v (.bool false) (.string ⟨#[]⟩)) (fun b hb => by rw [hb]; omega)
              have HOR : Hid _ := hor
              clear hor
              subst hvr
              go_wp2_with (go_at_call 19; refine Calls.mono (must_yes _ _) ?_; rintro e w_ ⟨rfl, hw_⟩; have hw3 := hw_.symm; clear hw_; subst hw3)
              refine bodyPost_ret (by simp [results, Tryz.results45, go_sem, o0, o1, o2, o3, o4]; try rfl) rfl ?_
              exact ⟨m_good HN.out ⟨ar, cr, rfl, HOR.out⟩ (rd_five HQ9.out.rd hne), gr_five HPY.out (Nat.le_refl _)⟩
          · have hi1 : i + 1 ≤ s.size := isAt_le v1
            have H6 : Hid (∀ W, Rm W b s i ad L.length c → _) := fun W h2 => take_H _ s ⟨#[47]⟩ i b _ W hs hil (by decide) true (i + 1) v1 rfl h2
            cases v2 : isAt s ⟨#[62]⟩ (i + 1)
            · have H7 : Hid (∀ W, Rm W b s (i + 1) ad L.length c → _) := fun W h2 => take_H _ s ⟨#[62]⟩ (i + 1) b _ W hs hi1 (by decide) false (i + 1) v2 rfl h2
              have HN : Hid (M = none) := HEND.out (.inr (.inl v1)) (by rw [two_at, v1, v2]; rfl) (slash_only v1)
              clear v1 v2
              go_wp2_with fail
              refine Calls.mono (H6.out _ HP3.out.rd) ?_
              rintro e w8 ⟨rfl, hr, hg⟩
              have HP8 : Hid _ := HP3.out.step hg hr
              clear hr hg
              obtain ⟨⟨m0, m1, m2, m3, m4⟩, p0, p1, p2, p3, p4⟩ := box5 HP8.out.box
              have HQ8 : Hid (QRel w0 w (w8.setCell ⟨mb, 3, none⟩ (.bool true)) mb b s (i + 1) ad L c n v R true) := HP8.out.flag true
              clear HP8
              go_wp2_with fail
              refine Calls.mono (H7.out _ HQ8.out.rd) ?_
              rintro e w9 ⟨rfl, hr, hg⟩
              have HQ9 : Hid _ := HQ8.out.step hg hr
              have HPY : Hid _ := HQ9.out.gr
              clear hr hg m0 m1 m2 m3 m4 p0 p1 p2 p3 p4
              go_wp2_with (go_at_call 19; refine Calls.mono (must_no _ _) ?_; rintro e w_ ⟨rfl, hw_⟩; have hw3 := hw_.symm; clear hw_; subst hw3)
              exact ⟨rfl, m_none HN.out rfl, HPY.out⟩
            · have H7 : Hid (∀ W, Rm W b s (i + 1) ad L.length c → _) := fun W h2 => take_H _ s ⟨#[62]⟩ (i + 1) b _ W hs hi1 (by decide) true (i + 2) v2 rfl h2
              have HN : Hid (M = some (⟨1, n, R, true, ⟨#[]⟩⟩, i + 2)) := HTWO.out (by rw [two_at, v1, v2]; rfl)
              clear v1 v2
              go_wp2_with fail
              refine Calls.mono (H6.out _ HP3.out.rd) ?_
              rintro e w8 ⟨rfl, hr, hg⟩
              have HP8 : Hid _ := HP3.out.step hg hr
              clear hr hg
              obtain ⟨⟨m0, m1, m2, m3, m4⟩, p0, p1, p2, p3, p4⟩ := box5 HP8.out.box
              have HQ8 : Hid (QRel w0 w (w8.setCell ⟨mb, 3, none⟩ (.bool true)) mb b s (i + 1) ad L c n v R true) := HP8.out.flag true
              clear HP8
              go_wp2_with fail
              refine Calls.mono (H7.out _ HQ8.out.rd) ?_
              rintro e w9 ⟨rfl, hr, hg⟩
              have HQ9 : Hid _ := HQ8.out.step hg hr
              have HPY : Hid _ := HQ9.out.gr
              clear hr hg m0 m1 m2 m3 m4 p0 p1 p2 p3 p4
              obtain ⟨⟨m0, m1, m2, m3, m4⟩, p0, p1, p2, p3, p4⟩ := box5 HQ9.out.box
              obtain ⟨⟨o0, o1, o2, o3, o4⟩, q0, q1, q2, q3, q4⟩ := box5 HQ9.out.res
              obtain ⟨ar, cr, hvr, hor⟩ := own_row (w := w) HQ9.out.own (by omega) (out5 w w9 (.int .i64 1) (.string n) v (.bool true) (.string ⟨#[]⟩)) (fun b hb => by rw [hb]; omega)
              have HOR : Hid _ := hor
              clear hor
              subst hvr
              go_wp2_with (go_at_call 19; refine Calls.mono (must_yes _ _) ?_; rintro e w_ ⟨rfl, hw_⟩; have hw3 := hw_.symm; clear hw_; subst hw3)
              refine bodyPost_ret (by simp [results, Tryz.results45, go_sem, o0, o1, o2, o3, o4]; try rfl) rfl ?_
              exact ⟨m_good HN.out ⟨ar, cr, rfl, HOR.out⟩ (rd_five HQ9.out.rd hne), gr_five HPY.out (Nat.le_refl _)⟩
  · have H1 : Hid (∀ W, Env w0 W b ad L → Rm W b s (a + 1) ad L.length c → _) := fun W h1 h2 => name_no s n (a + 1) k0 b ad L.length c W hs ha hk0 hn hok h1.xt.tab.name h2
    have HN : Hid (M = none) := hM.symm.trans (chk_none (openE_no (by rw [hk0, hn]; exact hok)))
    clear hE hR hk0 hn hok hM hv
    go_enter Tryz.func45, Tryz.ntmps45
    go_wp2_with fail
    refine Calls.mono (H1.out _ (HE0.out.below ((Below.refl _ _).alloc (Nat.le_refl _) _)) (HR0.out.below ((Below.refl _ _).alloc (Nat.le_refl _) _))) ?_
    rintro e w1 ⟨rfl, hg⟩
    have HG1 : Hid (w.grownBy w1 (some b)) := gr_from hg
    clear hg
    go_wp2
    exact ⟨rfl, m_none HN.out rfl, HG1.out⟩
end Go.Proofs.YtehdpkigfjjbaaaGreatDoor.cuts
