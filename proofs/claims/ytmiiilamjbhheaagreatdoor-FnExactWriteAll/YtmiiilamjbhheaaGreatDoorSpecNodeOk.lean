/-
  What the specification's NodeOk answers.
-/
import Derived.Test.YtmiiilamjbhheaaGreatDoorSpecKids
import Derived.Test.YtmiiilamjbhheaaGreatDoorNodeTo
namespace Go.Proofs.YtmiiilamjbhheaaGreatDoor.trees
open Go.ChangeShapes Go.WideShapes Go.ChangeAt Go.RowKit
open pairs (Pair at0 PairsAt)
open scopes (xmlB textB declsB ret_bool)
set_option linter.unusedVariables false
/-- What NodeOk says of a node. -/
def NodeOkOk (t : Tree) (h : Hdr) (w : World) : Prop :=
  Calls Tryz.prog 29 #[.agg (vals t h)] w fun e w' => e = .returned (.bool (nodeOkB t)) ∧ Below w.heap.size w w'
/-- A list of one node, in a row of its own. -/
theorem one_row {w : World} {B : Nat} {t : Tree} {h : Hdr} {ty : TypeId} (hn : NodeIn w B t h) : NodesAt (w.alloc (.cells (vals t h) ty)) 0 (some ⟨w.heap.size, 0, none⟩) [t] := by
  have hb : Below w.heap.size w (w.alloc (.cells (vals t h) ty)) := (Below.refl _ _).alloc (Nat.le_refl _) _
  refine ⟨fun _ => ⟨w.heap.size, 0, rfl, by simp, fun i hi => ?_⟩, by simp [maxLen], fun _ _ => Nat.zero_le _⟩
  obtain rfl : i = 0 := by simpa using hi
  refine ⟨h, NodeIn.mono (Nat.zero_le _) _ _ (hn.below hb), ?_⟩
  have hx : (w.alloc (.cells (vals t h) ty)).heap[w.heap.size]? = some (.cells (vals t h) ty (0, 0)) := heap_alloc_new w _
  unfold vals at hx ⊢
  exact box8 hx
theorem kids_one (t : Tree) (r : Nat) : kidsB [t] r = nodeB t r := by
  unfold kidsB
  rw [nodesB, nodesB, meet_no (fun i hi => by obtain rfl : i = 0 := (by simpa using hi); rfl)]
  simp
def emptyB (t : Tree) : Bool := t.pre.toList.isEmpty && (t.loc.toList.isEmpty && (t.uri.toList.isEmpty && (t.text.toList.isEmpty && ((((t.ds.length : Nat) : Int) == 0) && (((t.ats.length : Nat) : Int) == 0)))))
theorem whole_eq (t : Tree) : wholeB t = ((((kindTo t.kids 1 t.kids.length : Nat) : Int) == 1) && ((((kindTo t.kids 2 t.kids.length : Nat) : Int) == 0) && emptyB t)) := rfl
theorem whole_text {t : Tree} {i : Nat} (hi : i < t.kids.length) (h : ((kid t.kids i).kind == 2) = true) : wholeB t = false := by
  have := kindTo_some t.kids 2 hi h
  rw [whole_eq]
  have e : (((kindTo t.kids 2 t.kids.length : Nat) : Int) == 0) = false := by simp; omega
  rw [e]; simp
theorem whole_count {t : Tree} (h : ∀ i, i < t.kids.length → ((kid t.kids i).kind == 2) = false) : wholeB t = ((((kindTo t.kids 1 t.kids.length : Nat) : Int) == 1) && emptyB t) := by
  rw [whole_eq, kindTo_none t.kids 2 h]
  simp
theorem spec_cnt_flat {k : Int} {p l u x : ByteArray} {ds : List Pair} {ats : List Att} {ks : List Tree} {da : Option Addr} {dc : Nat} {aa : Option Addr} {ac : Nat} {ka : Option Addr} {kc : Nat} {w : World} {B c : Nat} (hc : cnt (.mk k p l u x ds ats ks) = c) (hz : nsz (.mk k p l u x ds ats ks) ≤ 1048576) (hn : NodeAt w B (.mk k p l u x ds ats ks) ⟨da, dc, aa, ac, ka, kc⟩) : Calls Tryz.prog 40 #[.agg #[.int .i64 k, .string p, .string l, .string u, .slice da ds.length dc, .slice aa ats.length ac, .slice ka ks.length kc, .string x]] w fun e w' => e = .returned (.int .i64 c) ∧ Below w.heap.size w w' := by
  have := cnt_node B _ (.mk k p l u x ds ats ks) ⟨da, dc, aa, ac, ka, kc⟩ w (Nat.lt_succ_self _) (by omega) hn.node
  unfold CntOk at this
  rw [hc] at this
  exact this
set_option maxRecDepth 100000 in
set_option maxHeartbeats 8000000 in
theorem spec_node_ok (t : Tree) (h : Hdr) (B : Nat) (w : World) (hz : nsz t ≤ 1048576) (hn : NodeIn w B t h) : NodeOkOk t h w := by
  have hR : nodeOkB t = (decide ((cnt t : Int) ≤ 60) && (bif t.kind == 0 then wholeB t && kidsB t.kids 7 else nodeB t 7)) := rfl
  have hW := whole_eq t
  have hWT := @whole_text t
  have hWC := @whole_count t
  have hcl := cnt_le t
  have hemp : emptyB t = (t.pre.toList.isEmpty && (t.loc.toList.isEmpty && (t.uri.toList.isEmpty && (t.text.toList.isEmpty && ((((t.ds.length : Nat) : Int) == 0) && (((t.ats.length : Nat) : Int) == 0)))))) := rfl
  obtain ⟨k, p, l, u, x, ds, ats, ks⟩ := t
  obtain ⟨da, dc, aa, ac, ka, kc⟩ := h
  simp only [Tree.kind, Tree.pre, Tree.loc, Tree.uri, Tree.text, Tree.ds, Tree.ats, Tree.kids] at hR hWT hWC hemp
  have HN : Hid (NodeAt w B (.mk k p l u x ds ats ks) ⟨da, dc, aa, ac, ka, kc⟩) := ⟨hn⟩
  have HK : Hid (NodesAt w B ka ks) := kids_at hn
  have hkk : ks.length ≤ 9223372036854775807 := (kids_at hn).short
  have HKZ : Hid (∀ j, j < ks.length → nsz (kid ks j) ≤ 1048576) := fun j hj => by
    have h1 := nsz_kid ks j hj
    rw [nsz] at hz
    omega
  have HZ : Hid _ := hz
  obtain ⟨c, hc⟩ : ∃ c, cnt (.mk k p l u x ds ats ks) = c := ⟨_, rfl⟩
  rw [hc] at hcl
  have hcb : c ≤ 1048577 := by omega
  have HC : Hid _ := hc
  rw [hc] at hR
  have H1 : Hid (∀ w, _) := fun w (h : NodesAt w 0 (some ⟨w.heap.size - 1, 0, none⟩) [Tree.mk k p l u x ds ats ks]) => spec_kids 0 _ [Tree.mk k p l u x ds ats ks] (some ⟨w.heap.size - 1, 0, none⟩) 1 0 w (Nat.lt_succ_self _) (by omega) (fun i hi => by obtain rfl : i = 0 := (by simpa using hi); exact HZ.out) h
  obtain ⟨nb, hnb⟩ : ∃ nb, nodeB (.mk k p l u x ds ats ks) 7 = nb := ⟨_, rfl⟩
  have H1 : Hid (∀ w, NodesAt w 0 (some ⟨w.heap.size - 1, 0, none⟩) [Tree.mk k p l u x ds ats ks] → Calls Tryz.prog 41 #[.slice (some ⟨w.heap.size - 1, 0, none⟩) 1 1, .int .i64 0] w fun e w' => e = .returned (.bool nb) ∧ Below w.heap.size w w') := fun w h => by
    have := H1.out w h
    unfold KidsOk at this
    rw [kids_one, hnb] at this
    exact this
  obtain ⟨kb, hkb⟩ : ∃ kb, kidsB ks 7 = kb := ⟨_, rfl⟩
  have H2 : Hid (∀ w, NodesAt w B ka ks → Calls Tryz.prog 41 #[.slice ka ks.length kc, .int .i64 0] w fun e w' => e = .returned (.bool kb) ∧ Below w.heap.size w w') := fun w h => by
    have := spec_kids B _ ks ka kc 0 w (Nat.lt_succ_self _) (by omega) HKZ.out h
    unfold KidsOk at this
    rw [hkb] at this
    exact this
  unfold NodeOkOk
  rw [hR, hkb, hnb]
  generalize hwb : wholeB (.mk k p l u x ds ats ks) = wb at hWT hWC
  have HWT : Hid (∀ i, i < ks.length → ((kid ks i).kind == 2) = true → wb = false) := fun i hi h => hWT hi h
  have HWC : Hid ((∀ i, i < ks.length → ((kid ks i).kind == 2) = false) → wb = ((((kindTo ks 1 ks.length : Nat) : Int) == 1) && emptyB (.mk k p l u x ds ats ks))) := fun h => hWC h
  have HEM : Hid _ := hemp
  simp only [vals, Tree.kind, Tree.pre, Tree.loc, Tree.uri, Tree.text, Tree.ds, Tree.ats, Tree.kids]
  clear hR hW hWT hWC hemp hn hz hcl hc hnb hkb hwb
  have HROW : Hid (∀ W, Below w.heap.size w W → NodesAt (W.alloc (.cells #[.int .i64 k, .string p, .string l, .string u, .slice da ds.length dc, .slice aa ats.length ac, .slice ka ks.length kc, .string x] 38)) 0 (some ⟨W.heap.size, 0, none⟩) [Tree.mk k p l u x ds ats ks]) := fun W h => one_row (HN.out.below h).node
  go_enter Tryz.func29, Tryz.ntmps29
  go_wp2_with fail
  refine (spec_cnt_flat HC.out HZ.out (HN.out.below ((Below.refl _ _).alloc (Nat.le_refl _) _))).mono ?_
  rintro e w1 ⟨rfl, hb1⟩
  have HX : Hid _ := box_kept hb1
  have HB : Hid _ := box_under hb1
  obtain ⟨b0, b1, b2, b3, b4, b5, b6, b7⟩ := box8 HX.out
  clear hb1
  by_cases h60 : (c : Int) ≤ 60
  · cases hk0 : (k == 0)
    · have hk0' : (k != 0) = true := by simp [bne, hk0]
      have H1' : Hid _ := H1.out _ (by have := HROW.out w1 HB.out; rw [World.size_alloc, Nat.add_sub_cancel]; exact this)
      rw [World.size_alloc, Nat.add_sub_cancel] at H1'
      go_wp2_with fail
      refine Calls.mono H1'.out ?_
      rintro e w2 ⟨rfl, hb2⟩
      have HB2 : Hid _ := HB.out.trans ((box_under (by rw [World.size_alloc]; exact hb2)).mono HB.out.size)
      clear hb2
      go_wp2
      go_ret
      exact ⟨ret_bool (by rw [decide_eq_true h60, hk0]; rfl), HB2.out⟩
    · have hk0' : (k != 0) = false := by simp [bne, hk0]
      go_wp2_with fail
      go_loopw [3, 4] (fun q t wr => ∃ i : Nat, i ≤ ks.length ∧ t = .int .i64 i ∧ q = .int .i64 (kindTo ks 1 i : Int) ∧ Hid (∀ j, j < i → ((kid ks j).kind == 2) = false) ∧ wr = w1) (fun _ t _ => ks.length - (intOf t).toNat)
      case atStart => exact ⟨0, Nat.zero_le _, rfl, rfl, (fun j hj => by omega), rfl⟩
      case round =>
        obtain ⟨i, hi, rfl, rfl, hup, rfl⟩ := hrel
        by_cases hlt : i < ks.length
        · obtain ⟨b, off, ha, hblt, hcs⟩ := (HK.out.below HB.out).row (by omega)
          obtain ⟨h', hnode, hc0, _⟩ := hcs i hlt
          have hst : kindTo ks 1 (i + 1) = kindTo ks 1 i + (bif (kid ks i).kind == 1 then 1 else 0) := rfl
          have hle := kindTo_le ks 1 i
          have hwt := HWT.out i hlt
          have hmo := fun h => upto_more (f := fun i => !((kid ks i).kind == 2)) (n := i) (fun j hj => by rw [hup.out j hj]; rfl) h
          generalize kid ks i = y at hc0 hst hwt hmo
          have HWTi : Hid (∀ h, _) := hwt
          have HMO : Hid (∀ h, _) := hmo
          have HST : Hid _ := hst
          subst ha
          clear hcs hnode hst hwt hmo
          cases hk2 : (y.kind == 2)
          · have HUP : Hid (∀ j, j < i + 1 → ((kid ks j).kind == 2) = false) := fun j hj => by have := HMO.out (by rw [hk2]; rfl) j hj; simpa using this
            cases hk1 : (y.kind == 1)
            · rw [hk1] at HST
              go_wp2
              go_roundw
              case rel => exact ⟨i + 1, by omega, by go_num, (by rw [HST.out]; rfl), HUP.out, trivial⟩
              case measure => simp [intOf]; omega
            · rw [hk1] at HST
              go_wp2
              go_roundw
              case rel => exact ⟨i + 1, by omega, by go_num, (by rw [HST.out]; congr 1), HUP.out, trivial⟩
              case measure => simp [intOf]; omega
          · have HF : Hid (wb = false) := HWTi.out hk2
            have hk1 : (y.kind == 1) = false := by rw [beq_iff_eq] at hk2; rw [hk2]; rfl
            go_wp2
            go_ret
            exact ⟨ret_bool (by rw [decide_eq_true h60, HF.out, hk0]; rfl), HB.out⟩
        · obtain rfl : i = ks.length := by omega
          have HWW := HWC.out hup.out
          rw [HEM.out] at HWW
          have HWE : Hid _ := HWW
          clear HWW
          cases z1 : (((kindTo ks 1 ks.length : Nat) : Int) == 1)
          · have HWF : Hid (wb = false) := by show _ = _; rw [HWE.out, z1]; simp
            go_wp2
            go_ret
            exact ⟨ret_bool (by rw [decide_eq_true h60, HWF.out, hk0]; rfl), HB.out⟩
          · skip
            cases z2 : (p.toList.isEmpty)
            · have HWF : Hid (wb = false) := by show _ = _; rw [HWE.out, z1, z2]; simp
              go_wp2
              go_ret
              exact ⟨ret_bool (by rw [decide_eq_true h60, HWF.out, hk0]; rfl), HB.out⟩
            · skip
              cases z3 : (l.toList.isEmpty)
              · have HWF : Hid (wb = false) := by show _ = _; rw [HWE.out, z1, z2, z3]; simp
                go_wp2
                go_ret
                exact ⟨ret_bool (by rw [decide_eq_true h60, HWF.out, hk0]; rfl), HB.out⟩
              · skip
                cases z4 : (u.toList.isEmpty)
                · have HWF : Hid (wb = false) := by show _ = _; rw [HWE.out, z1, z2, z3, z4]; simp
                  go_wp2
                  go_ret
                  exact ⟨ret_bool (by rw [decide_eq_true h60, HWF.out, hk0]; rfl), HB.out⟩
                · skip
                  cases z5 : (x.toList.isEmpty)
                  · have HWF : Hid (wb = false) := by show _ = _; rw [HWE.out, z1, z2, z3, z4, z5]; simp
                    go_wp2
                    go_ret
                    exact ⟨ret_bool (by rw [decide_eq_true h60, HWF.out, hk0]; rfl), HB.out⟩
                  · skip
                    cases z6 : (((ds.length : Nat) : Int) == 0)
                    · have HWF : Hid (wb = false) := by show _ = _; rw [HWE.out, z1, z2, z3, z4, z5, z6]; simp
                      go_wp2
                      go_ret
                      exact ⟨ret_bool (by rw [decide_eq_true h60, HWF.out, hk0]; rfl), HB.out⟩
                    · skip
                      cases z7 : (((ats.length : Nat) : Int) == 0)
                      · have HWF : Hid (wb = false) := by show _ = _; rw [HWE.out, z1, z2, z3, z4, z5, z6, z7]; simp
                        go_wp2
                        go_ret
                        exact ⟨ret_bool (by rw [decide_eq_true h60, HWF.out, hk0]; rfl), HB.out⟩
                      · skip
                        have HWT2 : Hid (wb = true) := by show _ = _; rw [HWE.out, z1, z2, z3, z4, z5, z6, z7]; rfl
                        go_wp2_with fail
                        refine (H2.out _ (HK.out.below HB.out)).mono ?_
                        rintro e w2 ⟨rfl, hb2⟩
                        have HB2 : Hid _ := HB.out.trans (hb2.mono HB.out.size)
                        clear hb2
                        go_wp2
                        go_ret
                        exact ⟨ret_bool (by rw [decide_eq_true h60, HWT2.out, hk0]; cases kb <;> rfl), HB2.out⟩
  · have HF : Hid (decide ((c : Int) ≤ 60) = false) := decide_eq_false h60
    go_wp2
    go_ret
    exact ⟨ret_bool (by rw [HF.out]; rfl), HB.out⟩
end Go.Proofs.YtmiiilamjbhheaaGreatDoor.trees
