/-
  What the specification's SameNode answers: whether two trees are the same.
-/
import Derived.Test.YtonlnoifhjhbiaaNodeEq
import Derived.Test.YtonlnoifhjhbiaaSpecFits
import Derived.Test.YtonlnoifhjhbiaaNeqStruct
import Derived.Deep.QuietTactic
import Derived.BigQuiet
namespace Go.Proofs.Ytonlnoifhjhbiaa.trees
open Go.ChangeShapes Go.WideShapes Go.ChangeAt Go.RowKit
open pairs (Pair at0 PairsAt)
set_option linter.unusedVariables false
attribute [-go_sem] run_neq_struct
attribute [local go_sem] neq_decl guard_decl neq_att guard_att
/-- Whether two trees are the same. -/
noncomputable def sameB (t t' : Tree) : Bool := @decide (t = t') (Classical.propDecidable _)
theorem same_no {t t' : Tree} (h : t ≠ t') : sameB t t' = false := @decide_eq_false _ (Classical.propDecidable _) h
theorem same_yes {t t' : Tree} (h : t = t') : sameB t t' = true := @decide_eq_true _ (Classical.propDecidable _) h
theorem bytes_eq {a b : ByteArray} (h : a.toList = b.toList) : a = b := by
  rw [ByteArray.toList_eq, ByteArray.toList_eq] at h
  exact ByteArray.ext (Array.toList_inj.1 h)
theorem ext_at0 {L M : List Pair} (hl : L.length = M.length) (h : ∀ i, i < L.length → at0 L i = at0 M i) : L = M := by
  apply List.ext_getElem hl
  intro i h1 h2
  have := h i h1
  unfold at0 at this
  simpa [List.getD, h1, h2] using this
theorem ext_att0 {L M : List Att} (hl : L.length = M.length) (h : ∀ i, i < L.length → att0 L i = att0 M i) : L = M := by
  apply List.ext_getElem hl
  intro i h1 h2
  have := h i h1
  unfold att0 at this
  simpa [List.getD, h1, h2] using this
theorem ext_kid {L M : List Tree} (hl : L.length = M.length) (h : ∀ i, i < L.length → kid L i = kid M i) : L = M := by
  apply List.ext_getElem hl
  intro i h1 h2
  have := h i h1
  unfold kid at this
  simpa [List.getD, h1, h2] using this
def SameOk (t t' : Tree) (h h' : Hdr) (w : World) : Prop :=
  Calls Try.prog 19 #[.agg (vals t h), .agg (vals t' h')] w fun e w' => e = .returned (.bool (sameB t t')) ∧ Below w.heap.size w w'
set_option maxRecDepth 100000 in
set_option maxHeartbeats 4000000 in
theorem same_node_of (n B B' : Nat) (ih : ∀ (t t' : Tree) (h h' : Hdr) (w : World), tsize t < n → NodeIn w B t h → NodeIn w B' t' h' → SameOk t t' h h' w)
    (t t' : Tree) (h h' : Hdr) (w : World) (ht : tsize t ≤ n) (hn : NodeIn w B t h) (hn' : NodeIn w B' t' h') : SameOk t t' h h' w := by
  have hkt := tsize_kid t
  obtain ⟨k, p, l, u, x, ds, ats, ks⟩ := t
  obtain ⟨k', p', l', u', x', ds', ats', ks'⟩ := t'
  obtain ⟨da, dc, aa, ac, ka, kc⟩ := h
  obtain ⟨da', dc', aa', ac', ka', kc'⟩ := h'
  have HD : Hid (PairsAt w da ds) := hn.decls
  have HA : Hid (AttsAt w aa ats) := hn.atts
  have HK : Hid (NodesAt w B ka ks) := kids_at hn
  have HD' : Hid (PairsAt w da' ds') := hn'.decls
  have HA' : Hid (AttsAt w aa' ats') := hn'.atts
  have HK' : Hid (NodesAt w B' ka' ks') := kids_at hn'
  have hkd : ds.length ≤ 9223372036854775807 := hn.decls.short
  have hka : ats.length ≤ 9223372036854775807 := hn.atts.short
  have hkk : ks.length ≤ 9223372036854775807 := (kids_at hn).short
  have HKT : Hid (∀ i, i < ks.length → tsize (kid ks i) < n) := fun i hi => Nat.lt_of_lt_of_le (hkt i hi) ht
  have HIH : Hid _ := ih
  unfold SameOk
  simp only [vals, Tree.kind, Tree.pre, Tree.loc, Tree.uri, Tree.text, Tree.ds, Tree.ats, Tree.kids]
  clear ih hn hn' ht hkt
  by_cases hE : k = k' ∧ p.toList = p'.toList ∧ l.toList = l'.toList ∧ u.toList = u'.toList ∧ x.toList = x'.toList ∧ (ds.length : Int) = ds'.length ∧ (ats.length : Int) = ats'.length ∧ ((ks.length : Int) != ks'.length) = false
  · obtain ⟨rfl, e1, e2, e3, e4, e5, e6, e7⟩ := hE
    obtain rfl := bytes_eq e1
    obtain rfl := bytes_eq e2
    obtain rfl := bytes_eq e3
    obtain rfl := bytes_eq e4
    have HLD : Hid (ds.length = ds'.length) := by show _ = _; omega
    have HLA : Hid (ats.length = ats'.length) := by show _ = _; omega
    have HLK : Hid (ks.length = ks'.length) := by simp at e7; show _ = _; omega
    have q5 : ((ds.length : Int) != (ds'.length : Int)) = false := by simpa using e5
    have q6 : ((ats.length : Int) != (ats'.length : Int)) = false := by simpa using e6
    clear e1 e2 e3 e4 e5 e6
    go_enter Try.func19, Try.ntmps19
    have HT0 : Hid (Two w ((w.alloc (.cells #[.int .i64 k, .string p, .string l, .string u, .slice da ds.length dc, .slice aa ats.length ac, .slice ka ks.length kc, .string x] 30)).alloc (.cells #[.int .i64 k, .string p, .string l, .string u, .slice da' ds'.length dc', .slice aa' ats'.length ac', .slice ka' ks'.length kc', .string x] 30)) 30 #[.int .i64 k, .string p, .string l, .string u, .slice da ds.length dc, .slice aa ats.length ac, .slice ka ks.length kc, .string x] #[.int .i64 k, .string p, .string l, .string u, .slice da' ds'.length dc', .slice aa' ats'.length ac', .slice ka' ks'.length kc', .string x]) := Two.new w _ _ _
    go_wp2_with fail
    go_loopw [5] (fun t wr => ∃ i : Nat, i ≤ ds.length ∧ t = .int .i64 i ∧ Hid (∀ j, j < i → at0 ds j = at0 ds' j) ∧ Hid (Two w wr 30 #[.int .i64 k, .string p, .string l, .string u, .slice da ds.length dc, .slice aa ats.length ac, .slice ka ks.length kc, .string x] #[.int .i64 k, .string p, .string l, .string u, .slice da' ds'.length dc', .slice aa' ats'.length ac', .slice ka' ks'.length kc', .string x])) (fun t _ => ds.length - (intOf t).toNat)
    case atStart => exact ⟨0, Nat.zero_le _, rfl, (fun j hj => by omega), HT0⟩
    case round =>
      obtain ⟨i, hi, rfl, hup, htw⟩ := hrel
      by_cases hlt : i < ds.length
      · obtain ⟨b, off, ha, hblt, hc⟩ := (HD.out.below (Nat.le_refl _) htw.out.bel).row (by omega)
        obtain ⟨b', off', ha', hblt', hc'⟩ := (HD'.out.below (Nat.le_refl _) htw.out.bel).row (by have := HLD.out; omega)
        have hl : ∀ W, Below wr.heap.size wr W → W.cell? ⟨b, off + i * 2, none⟩ = some (.string (at0 ds i).1) ∧ W.cell? ⟨b, off + i * 2 + 1, none⟩ = some (.string (at0 ds i).2) := fun W h => by
          rw [h.cell (p := ⟨b, off + i * 2, none⟩) hblt, h.cell (p := ⟨b, off + i * 2 + 1, none⟩) hblt]
          exact hc i hlt
        have hl' : ∀ W, Below wr.heap.size wr W → W.cell? ⟨b', off' + i * 2, none⟩ = some (.string (at0 ds' i).1) ∧ W.cell? ⟨b', off' + i * 2 + 1, none⟩ = some (.string (at0 ds' i).2) := fun W h => by
          rw [h.cell (p := ⟨b', off' + i * 2, none⟩) hblt', h.cell (p := ⟨b', off' + i * 2 + 1, none⟩) hblt']
          exact hc' i (by have := HLD.out; omega)
        have hx : ∀ W, Below wr.heap.size wr W → W.cell? ⟨w.heap.size, 4, none⟩ = some (.slice da ds.length dc) := fun W h => (box8 ((h.block _ (pairs.lt_heap htw.out.fst)).trans htw.out.fst)).2.2.2.2.1
        have hx' : ∀ W, Below wr.heap.size wr W → W.cell? ⟨w.heap.size + 1, 4, none⟩ = some (.slice da' ds'.length dc') := fun W h => (box8 ((h.block _ (pairs.lt_heap htw.out.snd)).trans htw.out.snd)).2.2.2.2.1
        have hilt : (i : Int) < ds.length := by omega
        have hilt' : (i : Int) < ds'.length := by have := HLD.out; omega
        obtain ⟨b0, b1, b2, b3, b4, b5, b6, b7⟩ := box8 htw.out.fst
        obtain ⟨y, hy⟩ : ∃ y, y = at0 ds i := ⟨_, rfl⟩
        obtain ⟨y', hy'⟩ : ∃ y, y = at0 ds' i := ⟨_, rfl⟩
        have HE1 : Hid _ := hy
        have HE2 : Hid _ := hy'
        rw [← hy] at hl
        rw [← hy'] at hl'
        have HTW : Hid (∀ W, Below wr.heap.size wr W → Two w W 30 #[.int .i64 k, .string p, .string l, .string u, .slice da ds.length dc, .slice aa ats.length ac, .slice ka ks.length kc, .string x] #[.int .i64 k, .string p, .string l, .string u, .slice da' ds'.length dc', .slice aa' ats'.length ac', .slice ka' ks'.length kc', .string x]) := fun W h => htw.out.below h
        subst ha ha'
        clear hc hc' hy hy'
        obtain ⟨n0, n1⟩ := y
        obtain ⟨m0, m1⟩ := y'
        dsimp only at hl hl'
        cases hqq : ((n0.toList == m0.toList) && (n1.toList == m1.toList))
        · have HF : Hid (sameB (.mk k p l u x ds ats ks) (.mk k p l u x ds' ats' ks') = false) := same_no fun e => by
            injection e with _ _ _ _ _ g1 g2 g3
            have : at0 ds i = at0 ds' i := by rw [g1]
            rw [← HE1.out, ← HE2.out] at this
            injection this with z0 z1
            rw [z0, z1] at hqq
            simp at hqq
          go_wp2_with fail
          refine quiets.wp_region_below (by kernel_rfl) (by kernel_rfl) ?_
          repeat (go_big_quiet_step ((first | (intro hq; rfl) | (intro hq; simp [go_sem, hx _ hq]; rfl) | (intro hq; simp [go_sem, hx' _ hq]; rfl) | (intro hq; simp [go_sem, (hl _ hq).1, (hl _ hq).2]; rfl) | (intro hq; simp [go_sem, (hl' _ hq).1, (hl' _ hq).2]; rfl) | (intro hq; simp only [go_sem, guard_decl, neq_decl, hqq]; rfl) | (intro hq; simp [go_sem, guard_decl, neq_decl, hqq]; rfl))))
          refine wpQuiet_nil ?_
          intro w6 hb6
          have HT6 : Hid _ := HTW.out w6 hb6
          clear hb6 hl hl' hx hx' b0 b1 b2 b3 b4 b5 b6 b7
          obtain ⟨b0, b1, b2, b3, b4, b5, b6, b7⟩ := box8 HT6.out.fst
          go_wp2
          go_ret
          exact ⟨ret_bool HF.out.symm, HT6.out.bel⟩
        · have HUP : Hid (∀ j, j < i + 1 → at0 ds j = at0 ds' j) := fun j hj => by
            by_cases e : j = i
            · rw [e, ← HE1.out, ← HE2.out]
              simp at hqq
              obtain ⟨z0, z1⟩ := hqq
              rw [bytes_eq z0, bytes_eq z1]
            · exact hup.out j (by omega)
          go_wp2_with fail
          refine quiets.wp_region_below (by kernel_rfl) (by kernel_rfl) ?_
          repeat (go_big_quiet_step ((first | (intro hq; rfl) | (intro hq; simp [go_sem, hx _ hq]; rfl) | (intro hq; simp [go_sem, hx' _ hq]; rfl) | (intro hq; simp [go_sem, (hl _ hq).1, (hl _ hq).2]; rfl) | (intro hq; simp [go_sem, (hl' _ hq).1, (hl' _ hq).2]; rfl) | (intro hq; simp only [go_sem, guard_decl, neq_decl, hqq]; rfl) | (intro hq; simp [go_sem, guard_decl, neq_decl, hqq]; rfl))))
          refine wpQuiet_nil ?_
          intro w6 hb6
          have HT6 : Hid _ := HTW.out w6 hb6
          clear hb6 hl hl' hx hx' b0 b1 b2 b3 b4 b5 b6 b7
          obtain ⟨b0, b1, b2, b3, b4, b5, b6, b7⟩ := box8 HT6.out.fst
          go_wp2
          go_roundw
          case rel => exact ⟨i + 1, by omega, by go_num, HUP.out, HT6⟩
          case measure => simp [intOf]; omega
      · have HDS : Hid (ds = ds') := ext_at0 HLD.out fun j hj => hup.out j (by omega)
        obtain ⟨b0, b1, b2, b3, b4, b5, b6, b7⟩ := box8 htw.out.fst
        go_wp2_with fail
        go_loopw [6] (fun t wr => ∃ i : Nat, i ≤ ats.length ∧ t = .int .i64 i ∧ Hid (∀ j, j < i → att0 ats j = att0 ats' j) ∧ Hid (Two w wr 30 #[.int .i64 k, .string p, .string l, .string u, .slice da ds.length dc, .slice aa ats.length ac, .slice ka ks.length kc, .string x] #[.int .i64 k, .string p, .string l, .string u, .slice da' ds'.length dc', .slice aa' ats'.length ac', .slice ka' ks'.length kc', .string x])) (fun t _ => ats.length - (intOf t).toNat)
        case atStart => exact ⟨0, Nat.zero_le _, rfl, (fun j hj => by omega), htw⟩
        case round =>
          obtain ⟨i, hi, rfl, hup, htw⟩ := hrel
          by_cases hlt : i < ats.length
          · obtain ⟨b, off, ha, hblt, hc⟩ := (HA.out.below (Nat.le_refl _) htw.out.bel).row (by omega)
            obtain ⟨b', off', ha', hblt', hc'⟩ := (HA'.out.below (Nat.le_refl _) htw.out.bel).row (by have := HLA.out; omega)
            have hl : ∀ W, Below wr.heap.size wr W → W.cell? ⟨b, off + i * 4, none⟩ = some (.string (att0 ats i).pre) ∧ W.cell? ⟨b, off + i * 4 + 1, none⟩ = some (.string (att0 ats i).loc) ∧ W.cell? ⟨b, off + i * 4 + 2, none⟩ = some (.string (att0 ats i).uri) ∧ W.cell? ⟨b, off + i * 4 + 3, none⟩ = some (.string (att0 ats i).val) := fun W h => by
              rw [h.cell (p := ⟨b, off + i * 4, none⟩) hblt, h.cell (p := ⟨b, off + i * 4 + 1, none⟩) hblt, h.cell (p := ⟨b, off + i * 4 + 2, none⟩) hblt, h.cell (p := ⟨b, off + i * 4 + 3, none⟩) hblt]
              exact hc i hlt
            have hl' : ∀ W, Below wr.heap.size wr W → W.cell? ⟨b', off' + i * 4, none⟩ = some (.string (att0 ats' i).pre) ∧ W.cell? ⟨b', off' + i * 4 + 1, none⟩ = some (.string (att0 ats' i).loc) ∧ W.cell? ⟨b', off' + i * 4 + 2, none⟩ = some (.string (att0 ats' i).uri) ∧ W.cell? ⟨b', off' + i * 4 + 3, none⟩ = some (.string (att0 ats' i).val) := fun W h => by
              rw [h.cell (p := ⟨b', off' + i * 4, none⟩) hblt', h.cell (p := ⟨b', off' + i * 4 + 1, none⟩) hblt', h.cell (p := ⟨b', off' + i * 4 + 2, none⟩) hblt', h.cell (p := ⟨b', off' + i * 4 + 3, none⟩) hblt']
              exact hc' i (by have := HLA.out; omega)
            have hx : ∀ W, Below wr.heap.size wr W → W.cell? ⟨w.heap.size, 5, none⟩ = some (.slice aa ats.length ac) := fun W h => (box8 ((h.block _ (pairs.lt_heap htw.out.fst)).trans htw.out.fst)).2.2.2.2.2.1
            have hx' : ∀ W, Below wr.heap.size wr W → W.cell? ⟨w.heap.size + 1, 5, none⟩ = some (.slice aa' ats'.length ac') := fun W h => (box8 ((h.block _ (pairs.lt_heap htw.out.snd)).trans htw.out.snd)).2.2.2.2.2.1
            have hilt : (i : Int) < ats.length := by omega
            have hilt' : (i : Int) < ats'.length := by have := HLA.out; omega
            obtain ⟨b0, b1, b2, b3, b4, b5, b6, b7⟩ := box8 htw.out.fst
            obtain ⟨y, hy⟩ : ∃ y, y = att0 ats i := ⟨_, rfl⟩
            obtain ⟨y', hy'⟩ : ∃ y, y = att0 ats' i := ⟨_, rfl⟩
            have HE1 : Hid _ := hy
            have HE2 : Hid _ := hy'
            rw [← hy] at hl
            rw [← hy'] at hl'
            have HTW : Hid (∀ W, Below wr.heap.size wr W → Two w W 30 #[.int .i64 k, .string p, .string l, .string u, .slice da ds.length dc, .slice aa ats.length ac, .slice ka ks.length kc, .string x] #[.int .i64 k, .string p, .string l, .string u, .slice da' ds'.length dc', .slice aa' ats'.length ac', .slice ka' ks'.length kc', .string x]) := fun W h => htw.out.below h
            subst ha ha'
            clear hc hc' hy hy'
            obtain ⟨n0, n1, n2, n3⟩ := y
            obtain ⟨m0, m1, m2, m3⟩ := y'
            dsimp only at hl hl'
            cases hqq : ((n0.toList == m0.toList) && ((n1.toList == m1.toList) && ((n2.toList == m2.toList) && (n3.toList == m3.toList))))
            · have HF : Hid (sameB (.mk k p l u x ds ats ks) (.mk k p l u x ds' ats' ks') = false) := same_no fun e => by
                injection e with _ _ _ _ _ g1 g2 g3
                have : att0 ats i = att0 ats' i := by rw [g2]
                rw [← HE1.out, ← HE2.out] at this
                injection this with z0 z1 z2 z3
                rw [z0, z1, z2, z3] at hqq
                simp at hqq
              go_wp2_with fail
              refine quiets.wp_region_below (by kernel_rfl) (by kernel_rfl) ?_
              repeat (go_big_quiet_step ((first | (intro hq; rfl) | (intro hq; simp [go_sem, hx _ hq]; rfl) | (intro hq; simp [go_sem, hx' _ hq]; rfl) | (intro hq; simp [go_sem, (hl _ hq).1, (hl _ hq).2.1, (hl _ hq).2.2.1, (hl _ hq).2.2.2]; rfl) | (intro hq; simp [go_sem, (hl' _ hq).1, (hl' _ hq).2.1, (hl' _ hq).2.2.1, (hl' _ hq).2.2.2]; rfl) | (intro hq; simp only [go_sem, guard_att, neq_att, hqq]; rfl) | (intro hq; simp [go_sem, guard_att, neq_att, hqq]; rfl))))
              refine wpQuiet_nil ?_
              intro w6 hb6
              have HT6 : Hid _ := HTW.out w6 hb6
              clear hb6 hl hl' hx hx' b0 b1 b2 b3 b4 b5 b6 b7
              obtain ⟨b0, b1, b2, b3, b4, b5, b6, b7⟩ := box8 HT6.out.fst
              go_wp2
              go_ret
              exact ⟨ret_bool HF.out.symm, HT6.out.bel⟩
            · have HUP : Hid (∀ j, j < i + 1 → att0 ats j = att0 ats' j) := fun j hj => by
                by_cases e : j = i
                · rw [e, ← HE1.out, ← HE2.out]
                  simp at hqq
                  obtain ⟨z0, z1, z2, z3⟩ := hqq
                  rw [bytes_eq z0, bytes_eq z1, bytes_eq z2, bytes_eq z3]
                · exact hup.out j (by omega)
              go_wp2_with fail
              refine quiets.wp_region_below (by kernel_rfl) (by kernel_rfl) ?_
              repeat (go_big_quiet_step ((first | (intro hq; rfl) | (intro hq; simp [go_sem, hx _ hq]; rfl) | (intro hq; simp [go_sem, hx' _ hq]; rfl) | (intro hq; simp [go_sem, (hl _ hq).1, (hl _ hq).2.1, (hl _ hq).2.2.1, (hl _ hq).2.2.2]; rfl) | (intro hq; simp [go_sem, (hl' _ hq).1, (hl' _ hq).2.1, (hl' _ hq).2.2.1, (hl' _ hq).2.2.2]; rfl) | (intro hq; simp only [go_sem, guard_att, neq_att, hqq]; rfl) | (intro hq; simp [go_sem, guard_att, neq_att, hqq]; rfl))))
              refine wpQuiet_nil ?_
              intro w6 hb6
              have HT6 : Hid _ := HTW.out w6 hb6
              clear hb6 hl hl' hx hx' b0 b1 b2 b3 b4 b5 b6 b7
              obtain ⟨b0, b1, b2, b3, b4, b5, b6, b7⟩ := box8 HT6.out.fst
              go_wp2
              go_roundw
              case rel => exact ⟨i + 1, by omega, by go_num, HUP.out, HT6⟩
              case measure => simp [intOf]; omega
          · have HAS : Hid (ats = ats') := ext_att0 HLA.out fun j hj => hup.out j (by omega)
            clear q5 q6
            obtain ⟨b0, b1, b2, b3, b4, b5, b6, b7⟩ := box8 htw.out.fst
            go_wp2_with fail
            go_loopw [7] (fun t wr => ∃ i : Nat, i ≤ ks.length ∧ t = .int .i64 i ∧ Hid (∀ j, j < i → kid ks j = kid ks' j) ∧ Hid (Two w wr 30 #[.int .i64 k, .string p, .string l, .string u, .slice da ds.length dc, .slice aa ats.length ac, .slice ka ks.length kc, .string x] #[.int .i64 k, .string p, .string l, .string u, .slice da' ds'.length dc', .slice aa' ats'.length ac', .slice ka' ks'.length kc', .string x])) (fun t _ => ks.length - (intOf t).toNat)
            case atStart => exact ⟨0, Nat.zero_le _, rfl, (fun j hj => by omega), htw⟩
            case round =>
              obtain ⟨i, hi, rfl, hup, htw⟩ := hrel
              by_cases hlt : i < ks.length
              · obtain ⟨b, off, ha, hblt, hc⟩ := (HK.out.below htw.out.bel).row (by omega)
                obtain ⟨b', off', ha', hblt', hc'⟩ := (HK'.out.below htw.out.bel).row (by have := HLK.out; omega)
                obtain ⟨h1, hn1, hcs⟩ := hc i hlt
                obtain ⟨h2, hn2, hcs'⟩ := hc' i (by have := HLK.out; omega)
                have hE := fun W (h : Below wr.heap.size wr W) => HIH.out (kid ks i) (kid ks' i) h1 h2 W (HKT.out i hlt) (hn1.below h) (hn2.below h)
                unfold SameOk at hE
                unfold vals at hE
                have hl : ∀ W, Below wr.heap.size wr W → W.cell? ⟨b, off + i * 8, none⟩ = some (.int .i64 (kid ks i).kind) ∧ W.cell? ⟨b, off + i * 8 + 1, none⟩ = some (.string (kid ks i).pre) ∧ W.cell? ⟨b, off + i * 8 + 2, none⟩ = some (.string (kid ks i).loc) ∧ W.cell? ⟨b, off + i * 8 + 3, none⟩ = some (.string (kid ks i).uri) ∧ W.cell? ⟨b, off + i * 8 + 4, none⟩ = some (.slice h1.da (kid ks i).ds.length h1.dc) ∧ W.cell? ⟨b, off + i * 8 + 5, none⟩ = some (.slice h1.aa (kid ks i).ats.length h1.ac) ∧ W.cell? ⟨b, off + i * 8 + 6, none⟩ = some (.slice h1.ka (kid ks i).kids.length h1.kc) ∧ W.cell? ⟨b, off + i * 8 + 7, none⟩ = some (.string (kid ks i).text) := fun W h => by
                  rw [h.cell (p := ⟨b, off + i * 8, none⟩) hblt, h.cell (p := ⟨b, off + i * 8 + 1, none⟩) hblt, h.cell (p := ⟨b, off + i * 8 + 2, none⟩) hblt, h.cell (p := ⟨b, off + i * 8 + 3, none⟩) hblt, h.cell (p := ⟨b, off + i * 8 + 4, none⟩) hblt, h.cell (p := ⟨b, off + i * 8 + 5, none⟩) hblt, h.cell (p := ⟨b, off + i * 8 + 6, none⟩) hblt, h.cell (p := ⟨b, off + i * 8 + 7, none⟩) hblt]
                  exact hcs
                have hl' : ∀ W, Below wr.heap.size wr W → W.cell? ⟨b', off' + i * 8, none⟩ = some (.int .i64 (kid ks' i).kind) ∧ W.cell? ⟨b', off' + i * 8 + 1, none⟩ = some (.string (kid ks' i).pre) ∧ W.cell? ⟨b', off' + i * 8 + 2, none⟩ = some (.string (kid ks' i).loc) ∧ W.cell? ⟨b', off' + i * 8 + 3, none⟩ = some (.string (kid ks' i).uri) ∧ W.cell? ⟨b', off' + i * 8 + 4, none⟩ = some (.slice h2.da (kid ks' i).ds.length h2.dc) ∧ W.cell? ⟨b', off' + i * 8 + 5, none⟩ = some (.slice h2.aa (kid ks' i).ats.length h2.ac) ∧ W.cell? ⟨b', off' + i * 8 + 6, none⟩ = some (.slice h2.ka (kid ks' i).kids.length h2.kc) ∧ W.cell? ⟨b', off' + i * 8 + 7, none⟩ = some (.string (kid ks' i).text) := fun W h => by
                  rw [h.cell (p := ⟨b', off' + i * 8, none⟩) hblt', h.cell (p := ⟨b', off' + i * 8 + 1, none⟩) hblt', h.cell (p := ⟨b', off' + i * 8 + 2, none⟩) hblt', h.cell (p := ⟨b', off' + i * 8 + 3, none⟩) hblt', h.cell (p := ⟨b', off' + i * 8 + 4, none⟩) hblt', h.cell (p := ⟨b', off' + i * 8 + 5, none⟩) hblt', h.cell (p := ⟨b', off' + i * 8 + 6, none⟩) hblt', h.cell (p := ⟨b', off' + i * 8 + 7, none⟩) hblt']
                  exact hcs'
                have hx : ∀ W, Below wr.heap.size wr W → W.cell? ⟨w.heap.size, 6, none⟩ = some (.slice ka ks.length kc) := fun W h => (box8 ((h.block _ (pairs.lt_heap htw.out.fst)).trans htw.out.fst)).2.2.2.2.2.2.1
                have hx' : ∀ W, Below wr.heap.size wr W → W.cell? ⟨w.heap.size + 1, 6, none⟩ = some (.slice ka' ks'.length kc') := fun W h => (box8 ((h.block _ (pairs.lt_heap htw.out.snd)).trans htw.out.snd)).2.2.2.2.2.2.1
                have hilt : (i : Int) < ks.length := by omega
                have hilt' : (i : Int) < ks'.length := by have := HLK.out; omega
                obtain ⟨b0, b1, b2, b3, b4, b5, b6, b7⟩ := box8 htw.out.fst
                obtain ⟨y, hy⟩ : ∃ y, y = kid ks i := ⟨_, rfl⟩
                obtain ⟨y', hy'⟩ : ∃ y, y = kid ks' i := ⟨_, rfl⟩
                have HE1 : Hid _ := hy
                have HE2 : Hid _ := hy'
                rw [← hy] at hl
                rw [← hy'] at hl'
                have hE' : ∀ W, Below wr.heap.size wr W → Calls Try.prog 19 #[.agg #[.int .i64 y.kind, .string y.pre, .string y.loc, .string y.uri, .slice h1.da y.ds.length h1.dc, .slice h1.aa y.ats.length h1.ac, .slice h1.ka y.kids.length h1.kc, .string y.text], .agg #[.int .i64 y'.kind, .string y'.pre, .string y'.loc, .string y'.uri, .slice h2.da y'.ds.length h2.dc, .slice h2.aa y'.ats.length h2.ac, .slice h2.ka y'.kids.length h2.kc, .string y'.text]] W fun e w' => e = .returned (.bool (sameB y y')) ∧ Below W.heap.size W w' := by rw [hy, hy']; exact hE
                have HTW : Hid (∀ W, Below wr.heap.size wr W → Two w W 30 #[.int .i64 k, .string p, .string l, .string u, .slice da ds.length dc, .slice aa ats.length ac, .slice ka ks.length kc, .string x] #[.int .i64 k, .string p, .string l, .string u, .slice da' ds'.length dc', .slice aa' ats'.length ac', .slice ka' ks'.length kc', .string x]) := fun W h => htw.out.below h
                subst ha ha'
                clear hc hc' hy hy' hE hcs hcs' hn1 hn2
                have hE := hE'
                clear hE'
                cases hqq : sameB y y'
                · have HF : Hid (sameB (.mk k p l u x ds ats ks) (.mk k p l u x ds' ats' ks') = false) := same_no fun e => by
                    injection e with _ _ _ _ _ g1 g2 g3
                    have : kid ks i = kid ks' i := by rw [g3]
                    rw [← HE1.out, ← HE2.out] at this
                    rw [same_yes this] at hqq
                    cases hqq
                  rw [hqq] at hE
                  go_wp2_with fail
                  refine quiets.wp_region_below (by kernel_rfl) (by kernel_rfl) ?_
                  repeat (go_big_quiet_step ((first | (intro hq; rfl) | (intro hq; simp [go_sem, hx _ hq]; rfl) | (intro hq; simp [go_sem, hx' _ hq]; rfl) | (intro hq; simp [go_sem, (hl _ hq).1, (hl _ hq).2.1, (hl _ hq).2.2.1, (hl _ hq).2.2.2.1, (hl _ hq).2.2.2.2.1, (hl _ hq).2.2.2.2.2.1, (hl _ hq).2.2.2.2.2.2.1, (hl _ hq).2.2.2.2.2.2.2]; rfl) | (intro hq; simp [go_sem, (hl' _ hq).1, (hl' _ hq).2.1, (hl' _ hq).2.2.1, (hl' _ hq).2.2.2.1, (hl' _ hq).2.2.2.2.1, (hl' _ hq).2.2.2.2.2.1, (hl' _ hq).2.2.2.2.2.2.1, (hl' _ hq).2.2.2.2.2.2.2]; rfl) | (intro hq; exact quiets.below_call (hE _ hq) hq))))
                  refine wpQuiet_nil ?_
                  intro w6 hb6
                  have HT6 : Hid _ := HTW.out w6 hb6
                  clear hb6 hl hl' hx hx' hE b0 b1 b2 b3 b4 b5 b6 b7
                  obtain ⟨b0, b1, b2, b3, b4, b5, b6, b7⟩ := box8 HT6.out.fst
                  go_wp2
                  go_ret
                  exact ⟨ret_bool HF.out.symm, HT6.out.bel⟩
                · have HUP : Hid (∀ j, j < i + 1 → kid ks j = kid ks' j) := fun j hj => by
                    by_cases e : j = i
                    · rw [e, ← HE1.out, ← HE2.out]
                      by_cases h : y = y'
                      · exact h
                      · rw [same_no h] at hqq
                        cases hqq
                    · exact hup.out j (by omega)
                  rw [hqq] at hE
                  go_wp2_with fail
                  refine quiets.wp_region_below (by kernel_rfl) (by kernel_rfl) ?_
                  repeat (go_big_quiet_step ((first | (intro hq; rfl) | (intro hq; simp [go_sem, hx _ hq]; rfl) | (intro hq; simp [go_sem, hx' _ hq]; rfl) | (intro hq; simp [go_sem, (hl _ hq).1, (hl _ hq).2.1, (hl _ hq).2.2.1, (hl _ hq).2.2.2.1, (hl _ hq).2.2.2.2.1, (hl _ hq).2.2.2.2.2.1, (hl _ hq).2.2.2.2.2.2.1, (hl _ hq).2.2.2.2.2.2.2]; rfl) | (intro hq; simp [go_sem, (hl' _ hq).1, (hl' _ hq).2.1, (hl' _ hq).2.2.1, (hl' _ hq).2.2.2.1, (hl' _ hq).2.2.2.2.1, (hl' _ hq).2.2.2.2.2.1, (hl' _ hq).2.2.2.2.2.2.1, (hl' _ hq).2.2.2.2.2.2.2]; rfl) | (intro hq; exact quiets.below_call (hE _ hq) hq))))
                  refine wpQuiet_nil ?_
                  intro w6 hb6
                  have HT6 : Hid _ := HTW.out w6 hb6
                  clear hb6 hl hl' hx hx' hE b0 b1 b2 b3 b4 b5 b6 b7
                  obtain ⟨b0, b1, b2, b3, b4, b5, b6, b7⟩ := box8 HT6.out.fst
                  go_wp2
                  go_roundw
                  case rel => exact ⟨i + 1, by omega, by go_num, HUP.out, HT6⟩
                  case measure => simp [intOf]; omega
              · have HF : Hid (sameB (.mk k p l u x ds ats ks) (.mk k p l u x ds' ats' ks') = true) := same_yes (by rw [HDS.out, HAS.out, ext_kid HLK.out fun j hj => hup.out j (by omega)])
                obtain ⟨b0, b1, b2, b3, b4, b5, b6, b7⟩ := box8 htw.out.fst
                go_wp2
                go_ret
                exact ⟨ret_bool HF.out.symm, htw.out.bel⟩
  · have HF : Hid (sameB (.mk k p l u x ds ats ks) (.mk k' p' l' u' x' ds' ats' ks') = false) := same_no fun e => by
      cases e
      exact hE ⟨rfl, rfl, rfl, rfl, rfl, rfl, rfl, by simp⟩
    have HNE : Hid _ := hE
    clear hE
    go_enter Try.func19, Try.ntmps19
    have HT0 : Hid (Two w ((w.alloc (.cells #[.int .i64 k, .string p, .string l, .string u, .slice da ds.length dc, .slice aa ats.length ac, .slice ka ks.length kc, .string x] 30)).alloc (.cells #[.int .i64 k', .string p', .string l', .string u', .slice da' ds'.length dc', .slice aa' ats'.length ac', .slice ka' ks'.length kc', .string x'] 30)) 30 #[.int .i64 k, .string p, .string l, .string u, .slice da ds.length dc, .slice aa ats.length ac, .slice ka ks.length kc, .string x] #[.int .i64 k', .string p', .string l', .string u', .slice da' ds'.length dc', .slice aa' ats'.length ac', .slice ka' ks'.length kc', .string x']) := Two.new w _ _ _
    go_wp2_with fail
    all_goals first
      | (go_ret; exact ⟨ret_bool HF.out.symm, ((Below.refl _ _).alloc (Nat.le_refl _) _).alloc (by simp) _⟩)
      | exact absurd ⟨by assumption, by assumption, by assumption, by assumption, by assumption, by assumption, by assumption, by assumption⟩ HNE.out
theorem same_node (B B' : Nat) : ∀ n, ∀ (t t' : Tree) (h h' : Hdr) (w : World), tsize t < n → NodeIn w B t h → NodeIn w B' t' h' → SameOk t t' h h' w
  | 0, t, t', h, h', w, ht, _, _ => by omega
  | n + 1, t, t', h, h', w, ht, hn, hn' => same_node_of n B B' (fun t t' h h' w ht hn hn' => same_node B B' n t t' h h' w ht hn hn') t t' h h' w (by omega) hn hn'
end Go.Proofs.Ytonlnoifhjhbiaa.trees
