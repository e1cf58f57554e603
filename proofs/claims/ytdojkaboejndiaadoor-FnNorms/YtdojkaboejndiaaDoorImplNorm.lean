/-
  What the program's Norm answers: the same as the specification's; by the library's ReplaceAll, twice.
-/
import Derived.Test.YtdojkaboejndiaaDoorEsc
import Derived.Test.YtdojkaboejndiaaDoorReplP
import Derived.Test.YtdojkaboejndiaaDoorShapedAnd
import Derived.Shelf.Strings.Replace
namespace Go.Proofs.YtdojkaboejndiaaDoor.escs
open Go.ChangeShapes Go.WideShapes Go.ChangeAt Go.RowKit Go.Shelf
open frames (MaxAt)
set_option linter.unusedVariables false
def laysRA_ren : Go.Shelf.Ren := ⟨fun | 155 => 20 | 154 => 35 | 138 => 53 | 165 => 54 | 143 => 55 | 166 => 50 | 197 => 56 | 169 => 51 | 195 => 65 | 218 => 66 | 240 => 62 | 241 => 67 | 219 => 68 | 260 => 69 | 276 => 71 | 277 => 74 | 217 => 75 | 225 => 76 | 224 => 77 | 267 => 78 | 266 => 82 | 314 => 83 | n => n, fun | 9 => 9 | 3 => 3 | 4 => 4 | 72 => 66 | 0 => 0 | 76 => 71 | 105 => 77 | 21 => 21 | 5 => 5 | 70 => 64 | 20 => 20 | 37 => 22 | 75 => 70 | 127 => 89 | 164 => 96 | 46 => 74 | 119 => 85 | 139 => 88 | 138 => 87 | 146 => 105 | 51 => 104 | 80 => 73 | n => n, fun | 1 => 6 | 3 => 3 | 4 => 4 | n => n⟩
theorem laysRA : Go.Proofs.Lays.n155 Tryd.prog laysRA_ren := {
  mixed := by kernel_rfl
  f138 := Tryd.func53.trans (congrArg some (by kernel_rfl))
  f143 := Tryd.func55.trans (congrArg some (by kernel_rfl))
  f154 := Tryd.func35.trans (congrArg some (by kernel_rfl))
  f155 := Tryd.func20.trans (congrArg some (by kernel_rfl))
  f165 := Tryd.func54.trans (congrArg some (by kernel_rfl))
  f166 := Tryd.func50.trans (congrArg some (by kernel_rfl))
  f169 := Tryd.func51.trans (congrArg some (by kernel_rfl))
  f195 := Tryd.func65.trans (congrArg some (by kernel_rfl))
  f197 := Tryd.func56.trans (congrArg some (by kernel_rfl))
  f217 := Tryd.func75.trans (congrArg some (by kernel_rfl))
  f218 := Tryd.func66.trans (congrArg some (by kernel_rfl))
  f219 := Tryd.func68.trans (congrArg some (by kernel_rfl))
  f224 := Tryd.func77.trans (congrArg some (by kernel_rfl))
  f225 := Tryd.func76.trans (congrArg some (by kernel_rfl))
  f240 := Tryd.func62.trans (congrArg some (by kernel_rfl))
  f241 := Tryd.func67.trans (congrArg some (by kernel_rfl))
  f260 := Tryd.func69.trans (congrArg some (by kernel_rfl))
  f266 := Tryd.func82.trans (congrArg some (by kernel_rfl))
  f267 := Tryd.func78.trans (congrArg some (by kernel_rfl))
  f276 := Tryd.func71.trans (congrArg some (by kernel_rfl))
  f277 := Tryd.func74.trans (congrArg some (by kernel_rfl))
  f314 := Tryd.func83.trans (congrArg some (by kernel_rfl))
  t0 := Tryd.underlying0
  a0 := Tryd.isAgg0
  z0 := Tryd.sizeOf0
  v0 := Tryd.zeroValue0
  t3 := Tryd.underlying3
  a3 := Tryd.isAgg3
  z3 := Tryd.sizeOf3
  v3 := Tryd.zeroValue3
  t4 := Tryd.underlying4
  a4 := Tryd.isAgg4
  z4 := Tryd.sizeOf4
  v4 := Tryd.zeroValue4
  t5 := Tryd.underlying5
  a5 := Tryd.isAgg5
  z5 := Tryd.sizeOf5
  v5 := Tryd.zeroValue5
  t9 := Tryd.underlying9
  a9 := Tryd.isAgg9
  z9 := Tryd.sizeOf9
  v9 := Tryd.zeroValue9
  t20 := Tryd.underlying20
  a20 := Tryd.isAgg20
  z20 := Tryd.sizeOf20
  v20 := Tryd.zeroValue20
  t21 := Tryd.underlying21
  a21 := Tryd.isAgg21
  z21 := Tryd.sizeOf21
  v21 := Tryd.zeroValue21
  t37 := Tryd.underlying22
  a37 := Tryd.isAgg22
  z37 := Tryd.sizeOf22
  v37 := Tryd.zeroValue22
  t46 := Tryd.underlying74
  a46 := Tryd.isAgg74
  z46 := Tryd.sizeOf74
  v46 := Tryd.zeroValue74
  t51 := Tryd.underlying104
  a51 := Tryd.isAgg104
  z51 := Tryd.sizeOf104
  v51 := Tryd.zeroValue104
  t70 := Tryd.underlying64
  a70 := Tryd.isAgg64
  z70 := Tryd.sizeOf64
  v70 := Tryd.zeroValue64
  t72 := Tryd.underlying66
  a72 := Tryd.isAgg66
  z72 := Tryd.sizeOf66
  v72 := Tryd.zeroValue66
  t75 := Tryd.underlying70
  a75 := Tryd.isAgg70
  z75 := Tryd.sizeOf70
  v75 := Tryd.zeroValue70
  t76 := Tryd.underlying71
  a76 := Tryd.isAgg71
  z76 := Tryd.sizeOf71
  v76 := Tryd.zeroValue71
  t105 := Tryd.underlying77
  a105 := Tryd.isAgg77
  z105 := Tryd.sizeOf77
  v105 := Tryd.zeroValue77
  t119 := Tryd.underlying85
  a119 := Tryd.isAgg85
  z119 := Tryd.sizeOf85
  t127 := Tryd.underlying89
  a127 := Tryd.isAgg89
  z127 := Tryd.sizeOf89
  v127 := Tryd.zeroValue89
  t138 := Tryd.underlying87
  a138 := Tryd.isAgg87
  z138 := Tryd.sizeOf87
  v138 := Tryd.zeroValue87
  t139 := Tryd.underlying88
  a139 := Tryd.isAgg88
  z139 := Tryd.sizeOf88
  v139 := Tryd.zeroValue88
  t146 := Tryd.underlying105
  a146 := Tryd.isAgg105
  z146 := Tryd.sizeOf105
  v146 := Tryd.zeroValue105
  t164 := Tryd.underlying96
  a164 := Tryd.isAgg96
  z164 := Tryd.sizeOf96
  v164 := Tryd.zeroValue96
  g1 := by kernel_rfl
  g3 := by kernel_rfl
  g4 := by kernel_rfl }
theorem extraRA : Builder.Extra Tryd.prog laysRA_ren := { sizeBuilder := by kernel_rfl, liesBuilder := by kernel_rfl, t5 := Tryd.underlying5, a5 := Tryd.isAgg5, z5 := Tryd.sizeOf5, v5 := Tryd.zeroValue5, infoByte := by kernel_rfl, cellsByte := by kernel_rfl, sizeByte := by kernel_rfl, neB5 := by decide }
theorem count_le (s old : ByteArray) (h1 : 1 ≤ old.size) : Lib.countB s old ≤ s.size := by
  have := Lib.countB_mul_le old h1 s.size s (Nat.le_refl _)
  exact Nat.le_trans (Nat.le_mul_of_pos_right _ h1) this
theorem replace_all (s old new x : ByteArray) (w : World) (hs : s.size ≤ 1048576) (h1 : 1 ≤ old.size) (hn : new.size = 1) (hx : (⟨(Lib.replaceAll s.data.toList old.data.toList new.data.toList).toArray⟩ : ByteArray) = x) (hm : MaxAt w) :
    Calls Tryd.prog 20 #[.string s, .string old, .string new] w fun e w' => e = .returned (.string x) ∧ Below w.heap.size w w' := by
  obtain ⟨m, hm⟩ := hm
  have hc := count_le s old h1
  refine (Any.strings_ReplaceAll laysRA extraRA s old new m w (by omega) hm h1 (by rw [hn]; omega)).mono ?_
  rintro e w' ⟨he, hb⟩
  rw [hx] at he
  exact ⟨he, hb⟩
theorem crlf_len : ∀ (n : Nat) (l : List UInt8), l.length ≤ n → (repl.crlf l).length ≤ l.length
  | _, [], _ => Nat.le_refl _
  | 0, b :: r, h => by simp at h
  | n + 1, [b], h => by rw [repl.crlf_one]; exact Nat.le_refl _
  | n + 1, b :: c :: q, h => by
    rw [repl.crlf]
    split
    · have := crlf_len n q (by simp at h; omega)
      simp only [List.length_cons]
      omega
    · have := crlf_len n (c :: q) (by simpa using h)
      simp only [List.length_cons] at *
      omega
theorem list_size (l : List UInt8) : (⟨l.toArray⟩ : ByteArray).size = l.length := by
  show l.toArray.size = _
  exact List.size_toArray
set_option maxRecDepth 100000 in
set_option maxHeartbeats 1000000 in
theorem impl_norm (s : ByteArray) (w : World) (hs : s.size ≤ 1048576) (hm : MaxAt w) : Calls Tryd.prog 8 #[.string s] w fun e w' => e = .returned (.string (normS s)) ∧ Below w.heap.size w w' := by
  have hc := crlf_len _ s.data.toList (Nat.le_refl _)
  rw [← Lib.size_eq] at hc
  obtain ⟨x, ex⟩ : ∃ x : ByteArray, x = ⟨(repl.crlf s.data.toList).toArray⟩ := ⟨_, rfl⟩
  have hxs : x.size ≤ 1048576 := by rw [ex, list_size]; omega
  have H1 : Hid _ := replace_all s ⟨#[13, 10]⟩ ⟨#[10]⟩ x w hs (by decide) rfl (by rw [ex, ← repl.crlf_all _ s.data.toList (Nat.le_refl _)]) hm
  have H2 : Hid (∀ w, MaxAt w → _) := fun w (hm : MaxAt w) => replace_all x ⟨#[13]⟩ ⟨#[10]⟩ (normS s) w hxs (by decide) rfl (by rw [repl.norm_eq, ex]; show (⟨(Lib.replaceAll (repl.crlf s.data.toList).toArray.toList [13] [10]).toArray⟩ : ByteArray) = _; rw [List.toList_toArray, repl.cr_all]) hm
  have HM : Hid (MaxAt w) := hm
  clear ex hxs hc hm
  go_enter Tryd.func8, Tryd.ntmps8
  go_wp2_with fail
  refine Calls.mono H1.out ?_
  rintro e w1 ⟨rfl, hb1⟩
  have HB1 : Hid _ := hb1
  clear hb1
  go_wp2_with fail
  refine (H2.out _ (HM.out.below HB1.out)).mono ?_
  rintro e w2 ⟨rfl, hb2⟩
  have HB2 : Hid _ := HB1.out.trans (hb2.mono HB1.out.size)
  clear hb2
  go_wp2
  go_ret
  exact ⟨rfl, HB2.out⟩
end Go.Proofs.YtdojkaboejndiaaDoor.escs
