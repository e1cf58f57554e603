/-
  What the program asks of texts in marks: markTextOk, toldTextOk, strings.Contains and strings.HasSuffix.
-/
import Derived.Test.YtmiiilamjbhheaaGreatDoorImplRight
import Derived.Test.YtmiiilamjbhheaaGreatDoorImplHas
import Derived.Test.YtmiiilamjbhheaaGreatDoorShapedAnd
import Derived.Test.YtmiiilamjbhheaaGreatDoorBlankSign
import Derived.Test.YtmiiilamjbhheaaGreatDoorImplDecl
import Derived.Lib.RabinKarpLaws
import Derived.Shelf.Strings.Search3
import Derived.Shelf.Strings.Prefix
namespace Go.Proofs.YtmiiilamjbhheaaGreatDoor.trees
open Go.ChangeShapes Go.WideShapes Go.ChangeAt Go.RowKit Go.Shelf
open pairs (Pair at0 PairsAt)
open scopes (ret_bool textB)
open escs (byteAt)
set_option linter.unusedVariables false
def laysSX_ren : Go.Shelf.Ren := ⟨fun | 100 => 90 | 207 => 104 | n => n, fun | 9 => 9 | 4 => 4 | 3 => 3 | n => n, fun | n => n⟩
theorem laysSX : Go.Proofs.Lays.n100 Tryz.prog laysSX_ren := {
  mixed := by kernel_rfl
  f100 := Tryz.func90.trans (congrArg some (by kernel_rfl))
  f207 := Tryz.func104.trans (congrArg some (by kernel_rfl))
  t3 := Tryz.underlying3
  a3 := Tryz.isAgg3
  z3 := Tryz.sizeOf3
  v3 := Tryz.zeroValue3
  t4 := Tryz.underlying4
  a4 := Tryz.isAgg4
  z4 := Tryz.sizeOf4
  v4 := Tryz.zeroValue4
  t9 := Tryz.underlying9
  a9 := Tryz.isAgg9
  z9 := Tryz.sizeOf9
  v9 := Tryz.zeroValue9 }
theorem last_one (x : ByteArray) (h : 0 < x.size) : (x.extract (x.size - 1) x.size) = ⟨#[x.get! (x.size - 1)]⟩ := by
  apply ByteArray.ext
  rw [ByteArray.data_extract]
  apply Array.ext
  · simp; omega
  · intro j h1 h2
    obtain rfl : j = 0 := by simpa using h2
    simp only [Array.getElem_extract, Nat.add_zero]
    rw [escs.get_of x _ (by omega)]
    rfl
theorem suffix_last (x : ByteArray) : Lib.hasSuffix x.data.toList [45] = !lastB x := by
  rw [← Lib.hasSuffix_raw x ⟨#[45]⟩]
  show (decide (1 ≤ x.size) && ((x.extract (x.size - 1) x.size).toList == (⟨#[45]⟩ : ByteArray).toList)) = _
  unfold lastB
  cases he : x.toList.isEmpty
  · have h0 := not_empty he
    rw [last_one x h0, decide_eq_true (by omega : 1 ≤ x.size), ByteArray.toList_eq, ByteArray.toList_eq]
    unfold byteAt
    simp only [Bool.true_and, Bool.false_or, Bool.not_not]
    rw [Bool.eq_iff_iff]
    simp only [beq_iff_eq]
    constructor
    · intro e
      have e' : x.get! (x.size - 1) = 45 := by simpa using e
      rw [e']; rfl
    · intro e
      have e' : x.get! (x.size - 1) = 45 := by
        apply UInt8.toNat_inj.1
        have : (x.get! (x.size - 1)).toNat = 45 := by omega
        rw [this]; rfl
      rw [e']
  · have h0 : x.size = 0 := by
      rw [ByteArray.toList_eq] at he
      have := List.isEmpty_iff.1 he
      have hl := congrArg List.length this
      simpa using hl
    rw [decide_eq_false (by omega)]
    rfl
theorem suffix_H (x : ByteArray) (b : Bool) (hx : x.size ≤ 1048576) (h : lastB x = b) (w : World) : Calls Tryz.prog 90 #[.string x, .string ⟨#[45]⟩] w fun e w' => e = .returned (.bool (!b)) ∧ Below w.heap.size w w' := by
  refine (Any.strings_HasSuffix laysSX x ⟨#[45]⟩ w (by omega)).mono ?_
  rintro e w' ⟨he, hw⟩
  rw [show (⟨#[45]⟩ : ByteArray).data.toList = [45] from rfl, suffix_last, h] at he
  exact ⟨he, hw ▸ Below.refl _ _⟩
theorem mark_text (s t : ByteArray) (w : World) (hs : s.size ≤ 1048576) (hT : scopes.Tabs w) (hm : frames.MaxAt w) : Calls Tryz.prog 89 #[.string s, .string t] w fun e w' => e = .returned (.bool (textB s && (!hasB s ⟨#[13]⟩ && !hasB s t))) ∧ Below w.heap.size w w' :=
  mark_text_ok s t _ _ _ w (fun W h => scopes.impl_textD s W (by unfold maxLen; omega) (hT.below h)) (fun W h => contains_H s _ _ hs rfl W (hm.below h)) (fun W h => contains_H s _ _ hs rfl W (hm.below h))
theorem told_first (s : ByteArray) (w : World) (hs : s.size ≤ 1048576) : ∃ (f k : Int) (ok : Bool), (ok && blanks.blkB f) = !firstB s ∧ ∀ W, Calls Tryz.prog 105 #[.string s, .int .i64 0] W fun e w' => e = .returned (.tuple #[.int .i64 f, .int .i64 k, .bool ok]) ∧ Below W.heap.size W w' := by
  have hs' : s.size ≤ maxLen := by unfold maxLen; omega
  cases he : s.toList.isEmpty
  · have h0 := not_empty he
    have hc := fun W => signs.impl_in s 0 W hs' h0
    by_cases hb : Utf8.decode s 0 = (65533, 1)
    · refine ⟨0, 0, false, ?_, fun W => ?_⟩
      · unfold firstB; rw [he]
        have := marks.bad_blank s 0 h0 hb
        unfold byteAt
        rw [this]; rfl
      · have := hc W
        rw [signs.satV_no hb] at this
        exact this
    · refine ⟨((Utf8.decode s 0).1 : Int), ((0 : Nat) : Int) + (Utf8.decode s 0).2, true, ?_, fun W => ?_⟩
      · have := (marks.sign_blank s 0 h0 hb).1
        rw [this]
        unfold firstB byteAt
        rw [he]
        cases blanks.blkB _ <;> rfl
      · have := hc W
        unfold signs.satV at this
        rw [if_neg hb] at this
        exact this
  · have h0 : s.size = 0 := by
      rw [ByteArray.toList_eq] at he
      have hl := congrArg List.length (List.isEmpty_iff.1 he)
      simpa using hl
    refine ⟨0, 0, false, ?_, fun W => (signs.impl_out s 0 W hs' (.inr (by omega))).mono fun e w' ⟨he, hw⟩ => ⟨he, hw ▸ Below.refl _ _⟩⟩
    unfold firstB; rw [he]; rfl
set_option maxRecDepth 100000 in
set_option maxHeartbeats 2000000 in
theorem told_text (s : ByteArray) (w : World) (hs : s.size ≤ 1048576) (hT : scopes.Tabs w) (hm : frames.MaxAt w) : Calls Tryz.prog 93 #[.string s] w fun e w' => e = .returned (.bool ((textB s && (!hasB s ⟨#[13]⟩ && !hasB s ⟨#[63, 62]⟩)) && firstB s)) ∧ Below w.heap.size w w' := by
  obtain ⟨f, k, ok, hf, hc⟩ := told_first s w hs
  have HC : Hid (∀ W, _) := hc
  have HM : Hid (∀ W, Below w.heap.size w W → _) := fun W h => mark_text s ⟨#[63, 62]⟩ W hs (hT.below h) (hm.below h)
  have HF : Hid ((ok && blanks.blkB f) = !firstB s) := hf
  generalize (textB s && (!hasB s ⟨#[13]⟩ && !hasB s ⟨#[63, 62]⟩)) = b1 at HM ⊢
  generalize firstB s = b2 at HF ⊢
  have hPt := blanks.impl_blank f
  obtain ⟨b3, hb3⟩ : ∃ b, blanks.blkB f = b := ⟨_, rfl⟩
  rw [hb3] at hPt HF
  have HPt : Hid (∀ w, _) := hPt
  clear hc hf hPt hb3 hT hm hs
  go_enter Tryz.func93, Tryz.ntmps93
  go_wp2_with fail
  refine (HC.out _).mono ?_
  rintro e w1 ⟨rfl, hb1⟩
  have HB1 : Hid _ := hb1
  clear hb1
  go_wp2_with fail
  refine (HM.out _ HB1.out).mono ?_
  rintro e w2 ⟨rfl, hb2⟩
  have HB2 : Hid _ := HB1.out.trans (hb2.mono HB1.out.size)
  clear hb2
  cases b1
  · go_wp2
    go_ret
    exact ⟨rfl, HB2.out⟩
  · cases ok
    · go_wp2
      go_ret
      exact ⟨ret_bool (by have := HF.out; cases b2; · exact this.symm ▸ rfl
                          · rfl), HB2.out⟩
    · go_wp2_with (go_at_call 111; refine (HPt.out _).mono ?_; rintro e w3 ⟨rfl, rfl⟩)
      go_ret
      exact ⟨ret_bool (by have := HF.out; cases b2 <;> cases b3 <;> first | rfl | cases this), HB2.out⟩
end Go.Proofs.YtmiiilamjbhheaaGreatDoor.trees
