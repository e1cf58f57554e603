/-
  What the specification's TreeOk answers.
-/
import Derived.Test.YtdhofcnpkfhoiaaGreatDoorSpecNodeOk
import Derived.Test.YtdhofcnpkfhoiaaGreatDoorSpecFits
namespace Go.Proofs.YtdhofcnpkfhoiaaGreatDoor.trees
open Go.ChangeShapes Go.WideShapes Go.ChangeAt Go.RowKit
open pairs (Pair at0 PairsAt)
set_option linter.unusedVariables false
def treeOkB (t : Tree) : Bool := (t.kind == 0) && (nodeOkB t && fitsB t [])
theorem no_pairs (w : World) (a : Option Addr) : PairsAt w a [] := ⟨fun h => absurd h (by simp), by simp, fun i hi => by cases hi⟩
def TreeOkOk (t : Tree) (h : Hdr) (w : World) : Prop :=
  Calls Tryz.prog 14 #[.agg (vals t h)] w fun e w' => e = .returned (.bool (treeOkB t)) ∧ Below w.heap.size w w'
set_option maxRecDepth 100000 in
set_option maxHeartbeats 4000000 in
theorem spec_tree_ok (t : Tree) (h : Hdr) (B : Nat) (w : World) (hz : nsz t ≤ 1048576) (hn : NodeIn w B t h) : TreeOkOk t h w := by
  have H1 : Hid (∀ W, Below w.heap.size w W → NodeOkOk t h W) := fun W hb => spec_node_ok t h B W hz (hn.below hb)
  have H2 : Hid (∀ a c W, Below w.heap.size w W → FitOk t h a [] c W) := fun a c W hb => fit_node B _ t h a [] c W (Nat.lt_succ_self _) (by simp; omega) (fun i hi => by cases hi) (hn.below hb) (no_pairs _ _)
  have HF : Hid (treeOkB t = ((t.kind == 0) && (nodeOkB t && fitsB t []))) := rfl
  unfold TreeOkOk
  rw [HF.out]
  obtain ⟨b1, e1⟩ : ∃ b, nodeOkB t = b := ⟨_, rfl⟩
  obtain ⟨b2, e2⟩ : ∃ b, fitsB t [] = b := ⟨_, rfl⟩
  unfold NodeOkOk at H1
  unfold FitOk at H2
  rw [e1] at H1 ⊢
  rw [e2] at H2 ⊢
  clear hn hz HF e1 e2
  obtain ⟨k, p, l, u, x, ds, ats, ks⟩ := t
  obtain ⟨da, dc, aa, ac, ka, kc⟩ := h
  simp only [vals, Tree.kind, Tree.pre, Tree.loc, Tree.uri, Tree.text, Tree.ds, Tree.ats, Tree.kids, List.length_nil] at H1 H2 ⊢
  cases hk : (k == 0)
  · go_enter Tryz.func14, Tryz.ntmps14
    go_wp2
    go_ret
    exact ⟨rfl, (Below.refl _ _).alloc (Nat.le_refl _) _⟩
  · go_enter Tryz.func14, Tryz.ntmps14
    go_wp2_with fail
    refine (H1.out _ ((Below.refl _ _).alloc (Nat.le_refl _) _)).mono ?_
    rintro e w1 ⟨rfl, hb1⟩
    have HB1 : Hid _ := box_under hb1
    have HX1 : Hid _ := box_kept hb1
    obtain ⟨b0, b1', b2', b3, b4, b5, b6, b7⟩ := box8 HX1.out
    clear hb1
    cases b1
    · go_wp2
      go_ret
      exact ⟨rfl, HB1.out⟩
    · go_wp2_with fail
      refine Calls.mono (H2.out _ _ _ (HB1.out.alloc HB1.out.size _)) ?_
      rintro e w2 ⟨rfl, hb2⟩
      have HB2 : Hid _ := (HB1.out.alloc HB1.out.size _).trans (hb2.mono (by have := HB1.out.size; simp; omega))
      clear hb2
      go_wp2
      go_ret
      exact ⟨rfl, HB2.out⟩
end Go.Proofs.YtdhofcnpkfhoiaaGreatDoor.trees
