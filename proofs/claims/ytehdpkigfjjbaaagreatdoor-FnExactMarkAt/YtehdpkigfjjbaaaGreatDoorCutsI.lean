/-
  What the program asks of a text from a place on: strings.HasPrefix and strings.Cut of what stands there.
-/
import Derived.Test.YtehdpkigfjjbaaaGreatDoorCutsQ
import Derived.Test.YtehdpkigfjjbaaaGreatDoorImplExp
import Derived.Test.YtehdpkigfjjbaaaGreatDoorImplHas
import Derived.Shelf.Strings.Prefix
namespace Go.Proofs.YtehdpkigfjjbaaaGreatDoor.cuts
open Go.ChangeShapes Go.WideShapes Go.ChangeAt Go.RowKit Go.Shelf
set_option linter.unusedVariables false
theorem data_len (t : ByteArray) : t.data.toList.length = t.size := Array.length_toList
theorem at_occ (s t : ByteArray) (k : Nat) (ht : 0 < t.size) : Lib.occAt s.data.toList t.data.toList k = isAt s t k := by
  by_cases h : k + t.size ≤ s.size
  · rw [isAt_in h]
    cases hb : ((s.extract k (k + t.size)).toList == t.toList)
    · exact occ_no s t k h hb
    · exact occ_yes s t k h hb
  · rw [isAt_out h]
    cases ho : Lib.occAt s.data.toList t.data.toList k
    · rfl
    · rcases Lib.occAt_room ho with h' | h'
      · rw [data_len, data_len] at h'
        exact absurd h' h
      · have := congrArg List.length h'
        rw [data_len] at this
        have h0 : t.size = 0 := this
        omega
theorem data_drop (s : ByteArray) (k : Nat) : (s.extract k s.size).data.toList = s.data.toList.drop k := by
  rw [← refs.drop_extract]
theorem tail_occ (s t : ByteArray) (k i : Nat) (ht : 0 < t.size) : Lib.occAt (s.extract k s.size).data.toList t.data.toList i = isAt s t (k + i) := by
  rw [← at_occ s t _ ht, data_drop]
  unfold Lib.occAt
  rw [List.drop_drop]
theorem tail_prefix (s t : ByteArray) (k : Nat) (ht : 0 < t.size) : Lib.hasPrefix (s.extract k s.size).data.toList t.data.toList = isAt s t k := by
  have := tail_occ s t k 0 ht
  rw [Nat.add_zero] at this
  rw [← this]
  unfold Lib.occAt Lib.hasPrefix
  rw [List.drop_zero]
theorem tail_hit {s t : ByteArray} {k j : Nat} (ht : 0 < t.size) (h : toI s t k = some j) : Lib.indexB (s.extract k s.size) t = ((j - k : Nat) : Int) := by
  obtain ⟨h1, h2, h3⟩ := toI_some h
  have h4 := isAt_le h2
  refine Lib.index_first (by rw [data_len, ByteArray.size_extract]; omega) ?_ (fun i hi => ?_)
  · rw [tail_occ s t k _ ht, show k + (j - k) = j by omega]
    exact h2
  · rw [tail_occ s t k _ ht]
    exact h3 _ (by omega) (by omega)
theorem tail_miss {s t : ByteArray} {k : Nat} (ht : 0 < t.size) (h : toI s t k = none) : Lib.indexB (s.extract k s.size) t = -1 := by
  rcases Lib.index_spec (s.extract k s.size).data.toList t.data.toList with ⟨h1, _⟩ | ⟨i, h1, h2, h3, _⟩
  · exact h1
  · rw [tail_occ s t k i ht, toI_none h _ (by omega)] at h3
    cases h3
theorem tail_ahead (s : ByteArray) (k j : Nat) (h : k ≤ j) (hj : j ≤ s.size) : (s.extract k s.size).extract 0 (j - k) = s.extract k j := by
  rw [ByteArray.extract_extract]
  congr 1
  omega
theorem tail_behind (s : ByteArray) (k j n : Nat) (h : k ≤ j) (hj : j + n ≤ s.size) : (s.extract k s.size).extract (j - k + n) (s.extract k s.size).size = s.extract (j + n) s.size := by
  rw [ByteArray.extract_extract, ByteArray.size_extract]
  congr 1 <;> omega
def laysPre_ren : Go.Shelf.Ren := ⟨fun | 99 => 78 | 206 => 87 | n => n, fun | 9 => 9 | 4 => 4 | 3 => 3 | n => n, fun | n => n⟩
theorem laysPre : Go.Proofs.Lays.n99 Tryz.prog laysPre_ren := {
  mixed := by kernel_rfl
  f99 := Tryz.func78.trans (congrArg some (by kernel_rfl))
  f206 := Tryz.func87.trans (congrArg some (by kernel_rfl))
  t3 := Tryz.underlying3
  a3 := Tryz.isAgg3
  z3 := Tryz.sizeOf3
  v3 := Tryz.zeroValue3
  t4 := Tryz.underlying4
  a4 := Tryz.isAgg4
  z4 := Tryz.sizeOf4
  v4 := Tryz.zeroValue4
  t9 := Tryz.underlying9
  a9 := Tryz.isAgg9
  z9 := Tryz.sizeOf9
  v9 := Tryz.zeroValue9 }
theorem prefix_at (s t : ByteArray) (k : Nat) (w : World) (ht : 0 < t.size) : Calls Tryz.prog 78 #[.string (s.extract k s.size), .string t] w fun e w' => e = .returned (.bool (isAt s t k)) ∧ w' = w := by
  refine (Any.strings_HasPrefix laysPre (s.extract k s.size) t w).mono ?_
  rintro e w' ⟨he, hw⟩
  rw [tail_prefix s t k ht] at he
  exact ⟨he, hw⟩
theorem cut_some (s t : ByteArray) (k j : Nat) (w : World) (hs : s.size ≤ 1048576) (ht : 0 < t.size) (hm : frames.MaxAt w) (h : toI s t k = some j) :
    Calls Tryz.prog 68 #[.string (s.extract k s.size), .string t] w fun e w' => e = .returned (.tuple #[.string (s.extract k j), .string (s.extract (j + t.size) s.size), .bool true]) ∧ Below w.heap.size w w' := by
  obtain ⟨m, hm⟩ := hm
  have hz : (s.extract k s.size).size ≤ 1048576 := by rw [ByteArray.size_extract]; omega
  obtain ⟨h1, h2, h3⟩ := toI_some h
  have h4 := isAt_le h2
  refine (Any.strings_Cut refs.laysCut (s.extract k s.size) t m w (by omega) hm).mono ?_
  rintro e w' ⟨he, n, hw⟩
  obtain ⟨e1, e2, e3⟩ := Lib.cutB_hit (s.extract k s.size) t (j - k) (tail_hit ht h)
  rw [e1, e2, e3, tail_ahead s k j h1 (by omega), tail_behind s k j t.size h1 h4] at he
  exact ⟨he, hw ▸ refs.below_drewN w n⟩
theorem cut_none (s t : ByteArray) (k : Nat) (w : World) (hs : s.size ≤ 1048576) (ht : 0 < t.size) (hm : frames.MaxAt w) (h : toI s t k = none) :
    Calls Tryz.prog 68 #[.string (s.extract k s.size), .string t] w fun e w' => e = .returned (.tuple #[.string (s.extract k s.size), .string ⟨#[]⟩, .bool false]) ∧ Below w.heap.size w w' := by
  obtain ⟨m, hm⟩ := hm
  have hz : (s.extract k s.size).size ≤ 1048576 := by rw [ByteArray.size_extract]; omega
  refine (Any.strings_Cut refs.laysCut (s.extract k s.size) t m w (by omega) hm).mono ?_
  rintro e w' ⟨he, n, hw⟩
  obtain ⟨e1, e2, e3⟩ := Lib.cutB_miss (s.extract k s.size) t (tail_miss ht h)
  rw [e1, e2, e3] at he
  exact ⟨he, hw ▸ refs.below_drewN w n⟩
end Go.Proofs.YtehdpkigfjjbaaaGreatDoor.cuts
