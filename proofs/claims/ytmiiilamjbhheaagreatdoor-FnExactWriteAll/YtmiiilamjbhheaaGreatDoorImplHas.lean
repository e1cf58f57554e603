/-
  strings.Contains, of the program.
-/
import Derived.Test.YtmiiilamjbhheaaGreatDoorNodeP
import Derived.Test.YtmiiilamjbhheaaGreatDoorShapedAnd
import Derived.Lib.RabinKarpLaws
import Derived.Shelf.Strings.Search3
import Derived.Shelf.Strings.Prefix
namespace Go.Proofs.YtmiiilamjbhheaaGreatDoor.trees
open Go.ChangeShapes Go.WideShapes Go.ChangeAt Go.RowKit Go.Shelf
set_option linter.unusedVariables false
def laysCT_ren : Go.Shelf.Ren := ⟨fun | 144 => 103 | 143 => 120 | 219 => 131 | 217 => 126 | 225 => 136 | 224 => 137 | 267 => 138 | 266 => 133 | 314 => 139 | n => n, fun | 9 => 9 | 4 => 4 | 3 => 3 | 5 => 5 | 46 => 148 | 146 => 168 | 51 => 58 | n => n, fun | 1 => 8 | n => n⟩
theorem laysCT : Go.Proofs.Lays.n144 Tryz.prog laysCT_ren := {
  mixed := by kernel_rfl
  f143 := Tryz.func120.trans (congrArg some (by kernel_rfl))
  f144 := Tryz.func103.trans (congrArg some (by kernel_rfl))
  f217 := Tryz.func126.trans (congrArg some (by kernel_rfl))
  f219 := Tryz.func131.trans (congrArg some (by kernel_rfl))
  f224 := Tryz.func137.trans (congrArg some (by kernel_rfl))
  f225 := Tryz.func136.trans (congrArg some (by kernel_rfl))
  f266 := Tryz.func133.trans (congrArg some (by kernel_rfl))
  f267 := Tryz.func138.trans (congrArg some (by kernel_rfl))
  f314 := Tryz.func139.trans (congrArg some (by kernel_rfl))
  t3 := Tryz.underlying3
  a3 := Tryz.isAgg3
  z3 := Tryz.sizeOf3
  v3 := Tryz.zeroValue3
  t4 := Tryz.underlying4
  a4 := Tryz.isAgg4
  z4 := Tryz.sizeOf4
  v4 := Tryz.zeroValue4
  t5 := Tryz.underlying5
  a5 := Tryz.isAgg5
  z5 := Tryz.sizeOf5
  v5 := Tryz.zeroValue5
  t9 := Tryz.underlying9
  a9 := Tryz.isAgg9
  z9 := Tryz.sizeOf9
  v9 := Tryz.zeroValue9
  t46 := Tryz.underlying148
  a46 := Tryz.isAgg148
  z46 := Tryz.sizeOf148
  v46 := Tryz.zeroValue148
  t51 := Tryz.underlying58
  a51 := Tryz.isAgg58
  z51 := Tryz.sizeOf58
  v51 := Tryz.zeroValue58
  t146 := Tryz.underlying168
  a146 := Tryz.isAgg168
  z146 := Tryz.sizeOf168
  v146 := Tryz.zeroValue168
  g1 := by kernel_rfl }
theorem contains_has (s t : ByteArray) : Lib.contains s.data.toList t.data.toList = hasB s t := by
  have hr : ∀ i, i + t.size ≤ s.size → Lib.occAt s.data.toList t.data.toList i = ((s.extract i (i + t.size)).toList == t.toList) := fun i hj => by
    cases h : ((s.extract i (i + t.size)).toList == t.toList)
    · exact occ_no s t i hj h
    · exact occ_yes s t i hj h
  unfold Lib.contains
  have hroom := Lib.index_room s.data.toList t.data.toList
  rw [Array.length_toList, Array.length_toList] at hroom
  have e1 : s.data.size = s.size := rfl
  have e2 : t.data.size = t.size := rfl
  rw [e1, e2] at hroom
  rcases Lib.index_spec s.data.toList t.data.toList with ⟨h1, h2⟩ | ⟨i, h1, h2, h3, _⟩
  · rw [h1, has_no (fun i hi => ?_)]
    · rfl
    · have := h2 i (by rw [Array.length_toList, e1]; omega)
      rw [hr i hi] at this
      exact this
  · have hi : i + t.size ≤ s.size := by omega
    rw [h1, has_yes hi (by rw [← hr i hi]; exact h3)]
    exact decide_eq_true (by omega)
theorem contains_H (s t : ByteArray) (b : Bool) (hs : s.size ≤ 1048576) (h : hasB s t = b) (w : World) (hm : frames.MaxAt w) : Calls Tryz.prog 103 #[.string s, .string t] w fun e w' => e = .returned (.bool b) ∧ Below w.heap.size w w' := by
  obtain ⟨m, hm⟩ := hm
  refine (Any.strings_Contains laysCT s t m w (by omega) hm).mono ?_
  rintro e w' ⟨he, hw⟩
  rw [contains_has, h] at he
  exact ⟨he, hw ▸ Below.refl _ _⟩
end Go.Proofs.YtmiiilamjbhheaaGreatDoor.trees
