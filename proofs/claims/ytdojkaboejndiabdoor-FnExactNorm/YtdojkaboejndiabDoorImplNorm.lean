/-
  What the program's Norm answers: the same as the specification's; by the library's ReplaceAll, twice.
-/
import Derived.Test.YtdojkaboejndiabDoorEsc
import Derived.Test.YtdojkaboejndiabDoorReplP
import Derived.Test.YtdojkaboejndiabDoorShapedAnd
import Derived.Shelf.Strings.Replace
namespace Go.Proofs.YtdojkaboejndiabDoor.escs
open Go.ChangeShapes Go.WideShapes Go.ChangeAt Go.RowKit Go.Shelf
open frames (MaxAt)
set_option linter.unusedVariables false
def laysRA_ren : Go.Shelf.Ren := ⟨fun | 155 => 6 | 154 => 7 | 138 => 8 | 165 => 9 | 143 => 10 | 166 => 11 | 197 => 12 | 169 => 13 | 195 => 14 | 218 => 15 | 240 => 16 | 241 => 17 | 219 => 18 | 260 => 19 | 276 => 20 | 277 => 21 | 217 => 22 | 225 => 23 | 224 => 24 | 267 => 25 | 266 => 26 | 314 => 27 | n => n, fun | 9 => 9 | 3 => 3 | 4 => 4 | 72 => 30 | 0 => 0 | 76 => 34 | 105 => 36 | 21 => 21 | 5 => 5 | 70 => 28 | 20 => 20 | 37 => 24 | 75 => 33 | 127 => 41 | 164 => 42 | 46 => 46 | 119 => 47 | 139 => 50 | 138 => 49 | 146 => 52 | 51 => 51 | 80 => 38 | n => n, fun | 1 => 0 | 3 => 1 | 4 => 2 | n => n⟩
theorem laysRA : Go.Proofs.Lays.n155 Tryd.prog laysRA_ren := {
  mixed := by kernel_rfl
  f138 := Tryd.func8.trans (congrArg some (by kernel_rfl))
  f143 := Tryd.func10.trans (congrArg some (by kernel_rfl))
  f154 := Tryd.func7.trans (congrArg some (by kernel_rfl))
  f155 := Tryd.func6.trans (congrArg some (by kernel_rfl))
  f165 := Tryd.func9.trans (congrArg some (by kernel_rfl))
  f166 := Tryd.func11.trans (congrArg some (by kernel_rfl))
  f169 := Tryd.func13.trans (congrArg some (by kernel_rfl))
  f195 := Tryd.func14.trans (congrArg some (by kernel_rfl))
  f197 := Tryd.func12.trans (congrArg some (by kernel_rfl))
  f217 := Tryd.func22.trans (congrArg some (by kernel_rfl))
  f218 := Tryd.func15.trans (congrArg some (by kernel_rfl))
  f219 := Tryd.func18.trans (congrArg some (by kernel_rfl))
  f224 := Tryd.func24.trans (congrArg some (by kernel_rfl))
  f225 := Tryd.func23.trans (congrArg some (by kernel_rfl))
  f240 := Tryd.func16.trans (congrArg some (by kernel_rfl))
  f241 := Tryd.func17.trans (congrArg some (by kernel_rfl))
  f260 := Tryd.func19.trans (congrArg some (by kernel_rfl))
  f266 := Tryd.func26.trans (congrArg some (by kernel_rfl))
  f267 := Tryd.func25.trans (congrArg some (by kernel_rfl))
  f276 := Tryd.func20.trans (congrArg some (by kernel_rfl))
  f277 := Tryd.func21.trans (congrArg some (by kernel_rfl))
  f314 := Tryd.func27.trans (congrArg some (by kernel_rfl))
  t0 := Tryd.underlying0
  a0 := Tryd.isAgg0
  z0 := Tryd.sizeOf0
  v0 := Tryd.zeroValue0
  t3 := Tryd.underlying3
  a3 := Tryd.isAgg3
  z3 := Tryd.sizeOf3
  v3 := Tryd.zeroValue3
  t4 := Tryd.underlying4
  a4 := Tryd.isAgg4
  z4 := Tryd.sizeOf4
  v4 := Tryd.zeroValue4
  t5 := Tryd.underlying5
  a5 := Tryd.isAgg5
  z5 := Tryd.sizeOf5
  v5 := Tryd.zeroValue5
  t9 := Tryd.underlying9
  a9 := Tryd.isAgg9
  z9 := Tryd.sizeOf9
  v9 := Tryd.zeroValue9
  t20 := Tryd.underlying20
  a20 := Tryd.isAgg20
  z20 := Tryd.sizeOf20
  v20 := Tryd.zeroValue20
  t21 := Tryd.underlying21
  a21 := Tryd.isAgg21
  z21 := Tryd.sizeOf21
  v21 := Tryd.zeroValue21
  t37 := Tryd.underlying24
  a37 := Tryd.isAgg24
  z37 := Tryd.sizeOf24
  v37 := Tryd.zeroValue24
  t46 := Tryd.underlying46
  a46 := Tryd.isAgg46
  z46 := Tryd.sizeOf46
  v46 := Tryd.zeroValue46
  t51 := Tryd.underlying51
  a51 := Tryd.isAgg51
  z51 := Tryd.sizeOf51
  v51 := Tryd.zeroValue51
  t70 := Tryd.underlying28
  a70 := Tryd.isAgg28
  z70 := Tryd.sizeOf28
  v70 := Tryd.zeroValue28
  t72 := Tryd.underlying30
  a72 := Tryd.isAgg30
  z72 := Tryd.sizeOf30
  v72 := Tryd.zeroValue30
  t75 := Tryd.underlying33
  a75 := Tryd.isAgg33
  z75 := Tryd.sizeOf33
  v75 := Tryd.zeroValue33
  t76 := Tryd.underlying34
  a76 := Tryd.isAgg34
  z76 := Tryd.sizeOf34
  v76 := Tryd.zeroValue34
  t105 := Tryd.underlying36
  a105 := Tryd.isAgg36
  z105 := Tryd.sizeOf36
  v105 := Tryd.zeroValue36
  t119 := Tryd.underlying47
  a119 := Tryd.isAgg47
  z119 := Tryd.sizeOf47
  t127 := Tryd.underlying41
  a127 := Tryd.isAgg41
  z127 := Tryd.sizeOf41
  v127 := Tryd.zeroValue41
  t138 := Tryd.underlying49
  a138 := Tryd.isAgg49
  z138 := Tryd.sizeOf49
  v138 := Tryd.zeroValue49
  t139 := Tryd.underlying50
  a139 := Tryd.isAgg50
  z139 := Tryd.sizeOf50
  v139 := Tryd.zeroValue50
  t146 := Tryd.underlying52
  a146 := Tryd.isAgg52
  z146 := Tryd.sizeOf52
  v146 := Tryd.zeroValue52
  t164 := Tryd.underlying42
  a164 := Tryd.isAgg42
  z164 := Tryd.sizeOf42
  v164 := Tryd.zeroValue42
  g1 := by kernel_rfl
  g3 := by kernel_rfl
  g4 := by kernel_rfl }
theorem extraRA : Builder.Extra Tryd.prog laysRA_ren := { sizeBuilder := by kernel_rfl, liesBuilder := by kernel_rfl, t5 := Tryd.underlying5, a5 := Tryd.isAgg5, z5 := Tryd.sizeOf5, v5 := Tryd.zeroValue5, infoByte := by kernel_rfl, cellsByte := by kernel_rfl, sizeByte := by kernel_rfl, neB5 := by decide }
theorem count_le (s old : ByteArray) (h1 : 1 ≤ old.size) : Lib.countB s old ≤ s.size := by
  have := Lib.countB_mul_le old h1 s.size s (Nat.le_refl _)
  exact Nat.le_trans (Nat.le_mul_of_pos_right _ h1) this
theorem replace_all (s old new x : ByteArray) (w : World) (hs : s.size ≤ 1048576) (h1 : 1 ≤ old.size) (hn : new.size = 1) (hx : (⟨(Lib.replaceAll s.data.toList old.data.toList new.data.toList).toArray⟩ : ByteArray) = x) (hm : MaxAt w) :
    Calls Tryd.prog 6 #[.string s, .string old, .string new] w fun e w' => e = .returned (.string x) ∧ Below w.heap.size w w' := by
  obtain ⟨m, hm⟩ := hm
  have hc := count_le s old h1
  refine (Any.strings_ReplaceAll laysRA extraRA s old new m w (by omega) hm h1 (by rw [hn]; omega)).mono ?_
  rintro e w' ⟨he, hb⟩
  rw [hx] at he
  exact ⟨he, hb⟩
theorem crlf_len : ∀ (n : Nat) (l : List UInt8), l.length ≤ n → (repl.crlf l).length ≤ l.length
  | _, [], _ => Nat.le_refl _
  | 0, b :: r, h => by simp at h
  | n + 1, [b], h => by rw [repl.crlf_one]; exact Nat.le_refl _
  | n + 1, b :: c :: q, h => by
    rw [repl.crlf]
    split
    · have := crlf_len n q (by simp at h; omega)
      simp only [List.length_cons]
      omega
    · have := crlf_len n (c :: q) (by simpa using h)
      simp only [List.length_cons] at *
      omega
theorem list_size (l : List UInt8) : (⟨l.toArray⟩ : ByteArray).size = l.length := by
  show l.toArray.size = _
  exact List.size_toArray
set_option maxRecDepth 100000 in
set_option maxHeartbeats 1000000 in
theorem impl_norm (s : ByteArray) (w : World) (hs : s.size ≤ 1048576) (hm : MaxAt w) : Calls Tryd.prog 5 #[.string s] w fun e w' => e = .returned (.string (normS s)) ∧ Below w.heap.size w w' := by
  have hc := crlf_len _ s.data.toList (Nat.le_refl _)
  rw [← Lib.size_eq] at hc
  obtain ⟨x, ex⟩ : ∃ x : ByteArray, x = ⟨(repl.crlf s.data.toList).toArray⟩ := ⟨_, rfl⟩
  have hxs : x.size ≤ 1048576 := by rw [ex, list_size]; omega
  have H1 : Hid _ := replace_all s ⟨#[13, 10]⟩ ⟨#[10]⟩ x w hs (by decide) rfl (by rw [ex, ← repl.crlf_all _ s.data.toList (Nat.le_refl _)]) hm
  have H2 : Hid (∀ w, MaxAt w → _) := fun w (hm : MaxAt w) => replace_all x ⟨#[13]⟩ ⟨#[10]⟩ (normS s) w hxs (by decide) rfl (by rw [repl.norm_eq, ex]; show (⟨(Lib.replaceAll (repl.crlf s.data.toList).toArray.toList [13] [10]).toArray⟩ : ByteArray) = _; rw [List.toList_toArray, repl.cr_all]) hm
  have HM : Hid (MaxAt w) := hm
  clear ex hxs hc hm
  go_enter Tryd.func5, Tryd.ntmps5
  go_wp2_with fail
  refine Calls.mono H1.out ?_
  rintro e w1 ⟨rfl, hb1⟩
  have HB1 : Hid _ := hb1
  clear hb1
  go_wp2_with fail
  refine (H2.out _ (HM.out.below HB1.out)).mono ?_
  rintro e w2 ⟨rfl, hb2⟩
  have HB2 : Hid _ := HB1.out.trans (hb2.mono HB1.out.size)
  clear hb2
  go_wp2
  go_ret
  exact ⟨rfl, HB2.out⟩
end Go.Proofs.YtdojkaboejndiabDoor.escs
