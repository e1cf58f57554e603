/-
  The library's strings.Builder, of the call's own: what WriteString, WriteByte and String do, by the shelf's contracts.
-/
import Derived.Test.YtdojkaboejndiaaDoorRows
import Derived.Test.YtdojkaboejndiaaDoorChecked
import Derived.Shelf.Strings.BuilderK
import Derived.WalkKit
import Derived.Below
namespace Go.Proofs.YtdojkaboejndiaaDoor.builders
open Go.RowKit Go.Shelf
set_option linter.unusedVariables false
/-- Block b is a builder, made since B, that holds o. -/
def IsB (w : World) (B b : Nat) (o : ByteArray) : Prop := Lib.IsBuilderF 66 5 B b (Lib.byteCells o.data.toList) w
theorem cells_append (l m : List UInt8) : Lib.byteCells (l ++ m) = Lib.byteCells l ++ Lib.byteCells m := by
  unfold Lib.byteCells
  rw [List.map_append]
theorem str_cells (s : ByteArray) : Lib.strCells s = Lib.byteCells s.data.toList := rfl
theorem cells_len (l : List UInt8) : (Lib.byteCells l).length = l.length := by
  unfold Lib.byteCells
  rw [List.length_map]
theorem size_list (s : ByteArray) : s.data.toList.length = s.size := by rw [Array.length_toList]; rfl
theorem data_append (a b : ByteArray) : (a ++ b).data.toList = a.data.toList ++ b.data.toList := by
  rw [ByteArray.data_append, Array.toList_append]
theorem made (w : World) (B : Nat) (hB : B ≤ w.heap.size) : IsB (w.alloc (.cells #[.pointer none, .slice none 0 0] 66)) B w.heap.size ⟨#[]⟩ :=
  .inl ⟨hB, .slice none 0 0, heap_alloc_new w _, ⟨by decide, .inl ⟨rfl, rfl⟩⟩, by simp [Value.ownBlock]⟩
theorem IsB.lt {w : World} {B b : Nat} {o : ByteArray} (h : IsB w B b o) : b < w.heap.size := h.elim (fun x => x.lt) (fun x => x.lt)
theorem IsB.ge {w : World} {B b : Nat} {o : ByteArray} (h : IsB w B b o) : B ≤ b := h.elim (fun x => x.1) (fun x => x.1)
theorem at_below {T e : TypeId} {B b : Nat} {p : Value} {bs : List Value} {w w' : World} (h : Lib.BuilderAtF T e B b p bs w) (hb : Below w.heap.size w w') : Lib.BuilderAtF T e B b p bs w' := by
  have hlt := h.lt
  obtain ⟨hB, v, hk, hown, hne⟩ := h
  refine ⟨hB, v, (hb.block b hlt).trans hk, hown.kept (row := none) ⟨hb.os, hb.tape, hb.output, hb.size, fun k hk _ => hb.block k hk⟩ (by cases hv : v.ownBlock <;> simp), hne⟩
theorem IsB.below {w w' : World} {B b : Nat} {o : ByteArray} (h : IsB w B b o) (hb : Below w.heap.size w w') : IsB w' B b o := h.elim (fun x => .inl (at_below x hb)) (fun x => .inr (at_below x hb))
def laysWS_ren : Go.Shelf.Ren := ⟨fun | 166 => 50 | 240 => 62 | 276 => 71 | n => n, fun | 70 => 64 | 9 => 9 | 3 => 3 | 75 => 70 | 0 => 0 | 72 => 66 | 37 => 22 | 4 => 4 | 164 => 96 | 80 => 73 | 5 => 5 | n => n, fun | n => n⟩
theorem laysWS : Go.Proofs.Lays.n166 Tryd.prog laysWS_ren := {
  mixed := by kernel_rfl
  f166 := Tryd.func50.trans (congrArg some (by kernel_rfl))
  f240 := Tryd.func62.trans (congrArg some (by kernel_rfl))
  f276 := Tryd.func71.trans (congrArg some (by kernel_rfl))
  t0 := Tryd.underlying0
  a0 := Tryd.isAgg0
  z0 := Tryd.sizeOf0
  v0 := Tryd.zeroValue0
  t3 := Tryd.underlying3
  a3 := Tryd.isAgg3
  z3 := Tryd.sizeOf3
  v3 := Tryd.zeroValue3
  t4 := Tryd.underlying4
  a4 := Tryd.isAgg4
  z4 := Tryd.sizeOf4
  v4 := Tryd.zeroValue4
  t9 := Tryd.underlying9
  a9 := Tryd.isAgg9
  z9 := Tryd.sizeOf9
  v9 := Tryd.zeroValue9
  t20 := Tryd.underlying20
  a20 := Tryd.isAgg20
  z20 := Tryd.sizeOf20
  v20 := Tryd.zeroValue20
  t37 := Tryd.underlying22
  a37 := Tryd.isAgg22
  z37 := Tryd.sizeOf22
  v37 := Tryd.zeroValue22
  t70 := Tryd.underlying64
  a70 := Tryd.isAgg64
  z70 := Tryd.sizeOf64
  v70 := Tryd.zeroValue64
  t72 := Tryd.underlying66
  a72 := Tryd.isAgg66
  z72 := Tryd.sizeOf66
  v72 := Tryd.zeroValue66
  t75 := Tryd.underlying70
  a75 := Tryd.isAgg70
  z75 := Tryd.sizeOf70
  v75 := Tryd.zeroValue70
  t164 := Tryd.underlying96
  a164 := Tryd.isAgg96
  z164 := Tryd.sizeOf96
  v164 := Tryd.zeroValue96 }
theorem extraWS : Builder.Extra Tryd.prog laysWS_ren := { sizeBuilder := by kernel_rfl, liesBuilder := by kernel_rfl, t5 := Tryd.underlying5, a5 := Tryd.isAgg5, z5 := Tryd.sizeOf5, v5 := Tryd.zeroValue5, infoByte := by kernel_rfl, cellsByte := by kernel_rfl, sizeByte := by kernel_rfl, neB5 := by decide }
theorem write_str (B b : Nat) (o s : ByteArray) (w : World) (h : IsB w B b o) (hlen : o.size + s.size ≤ 140737488355328) (hBw : B ≤ w.heap.size) :
    Calls Tryd.prog 50 #[.pointer (some ⟨b, 0, none⟩), .string s] w fun e w' => e = .returned (.tuple #[.int .i64 s.size, .nilIface]) ∧ IsB w' B b (o ++ s) ∧ Below B w w' ∧ Lib.OthersKept 5 (some b) w w' := by
  refine (Any.Builder_WriteString_k laysWS extraWS B b (Lib.byteCells o.data.toList) s w h (by rw [cells_len, size_list]; exact hlen) hBw).mono ?_
  rintro e w' ⟨he, h1, h2, h3⟩
  rw [str_cells, ← cells_append, ← data_append] at h1
  exact ⟨he, .inr h1, h2, h3⟩
def laysST_ren : Go.Shelf.Ren := ⟨fun | 169 => 51 | n => n, fun | 70 => 64 | 9 => 9 | 0 => 0 | 72 => 66 | 37 => 22 | 127 => 89 | 3 => 3 | 5 => 5 | n => n, fun | n => n⟩
theorem laysST : Go.Proofs.Lays.n169 Tryd.prog laysST_ren := {
  mixed := by kernel_rfl
  f169 := Tryd.func51.trans (congrArg some (by kernel_rfl))
  t0 := Tryd.underlying0
  a0 := Tryd.isAgg0
  z0 := Tryd.sizeOf0
  v0 := Tryd.zeroValue0
  t3 := Tryd.underlying3
  a3 := Tryd.isAgg3
  z3 := Tryd.sizeOf3
  v3 := Tryd.zeroValue3
  t9 := Tryd.underlying9
  a9 := Tryd.isAgg9
  z9 := Tryd.sizeOf9
  v9 := Tryd.zeroValue9
  t37 := Tryd.underlying22
  a37 := Tryd.isAgg22
  z37 := Tryd.sizeOf22
  v37 := Tryd.zeroValue22
  t70 := Tryd.underlying64
  a70 := Tryd.isAgg64
  z70 := Tryd.sizeOf64
  v70 := Tryd.zeroValue64
  t72 := Tryd.underlying66
  a72 := Tryd.isAgg66
  z72 := Tryd.sizeOf66
  v72 := Tryd.zeroValue66
  t127 := Tryd.underlying89
  a127 := Tryd.isAgg89
  z127 := Tryd.sizeOf89
  v127 := Tryd.zeroValue89 }
theorem extraST : Builder.Extra Tryd.prog laysST_ren := { sizeBuilder := by kernel_rfl, liesBuilder := by kernel_rfl, t5 := Tryd.underlying5, a5 := Tryd.isAgg5, z5 := Tryd.sizeOf5, v5 := Tryd.zeroValue5, infoByte := by kernel_rfl, cellsByte := by kernel_rfl, sizeByte := by kernel_rfl, neB5 := by decide }
theorem to_str (B b : Nat) (o : ByteArray) (w : World) (h : IsB w B b o) (hBw : B ≤ w.heap.size) :
    Calls Tryd.prog 51 #[.pointer (some ⟨b, 0, none⟩)] w fun e w' => e = .returned (.string o) ∧ IsB w' B b o ∧ Below B w w' := by
  refine (Any.Builder_String_any_k laysST extraST B b o.data.toList w h hBw).mono ?_
  rintro e w' ⟨he, h1, h2, h3⟩
  have e1 : (⟨o.data.toList.toArray⟩ : ByteArray) = o := by rw [Array.toArray_toList]
  rw [e1] at he
  exact ⟨he, h1, h2⟩
end Go.Proofs.YtdojkaboejndiaaDoor.builders
