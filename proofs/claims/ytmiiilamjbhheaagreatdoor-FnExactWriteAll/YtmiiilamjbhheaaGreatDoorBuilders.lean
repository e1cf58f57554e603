/-
  The library's strings.Builder, of the call's own: what WriteString, WriteByte and String do, by the shelf's contracts.
-/
import Derived.Test.YtmiiilamjbhheaaGreatDoorRows
import Derived.Test.YtmiiilamjbhheaaGreatDoorChecked
import Derived.Shelf.Strings.BuilderK
import Derived.WalkKit
import Derived.Below
namespace Go.Proofs.YtmiiilamjbhheaaGreatDoor.builders
open Go.RowKit Go.Shelf
set_option linter.unusedVariables false
/-- Block b is a builder, made since B, that holds o. -/
def IsB (w : World) (B b : Nat) (o : ByteArray) : Prop := Lib.IsBuilderF 48 5 B b (Lib.byteCells o.data.toList) w
theorem cells_append (l m : List UInt8) : Lib.byteCells (l ++ m) = Lib.byteCells l ++ Lib.byteCells m := by
  unfold Lib.byteCells
  rw [List.map_append]
theorem str_cells (s : ByteArray) : Lib.strCells s = Lib.byteCells s.data.toList := rfl
theorem cells_len (l : List UInt8) : (Lib.byteCells l).length = l.length := by
  unfold Lib.byteCells
  rw [List.length_map]
theorem size_list (s : ByteArray) : s.data.toList.length = s.size := by rw [Array.length_toList]; rfl
theorem data_append (a b : ByteArray) : (a ++ b).data.toList = a.data.toList ++ b.data.toList := by
  rw [ByteArray.data_append, Array.toList_append]
theorem made (w : World) (B : Nat) (hB : B ≤ w.heap.size) : IsB (w.alloc (.cells #[.pointer none, .slice none 0 0] 48)) B w.heap.size ⟨#[]⟩ :=
  .inl ⟨hB, .slice none 0 0, heap_alloc_new w _, ⟨by decide, .inl ⟨rfl, rfl⟩⟩, by simp [Value.ownBlock]⟩
theorem IsB.lt {w : World} {B b : Nat} {o : ByteArray} (h : IsB w B b o) : b < w.heap.size := h.elim (fun x => x.lt) (fun x => x.lt)
theorem IsB.ge {w : World} {B b : Nat} {o : ByteArray} (h : IsB w B b o) : B ≤ b := h.elim (fun x => x.1) (fun x => x.1)
theorem at_below {T e : TypeId} {B b : Nat} {p : Value} {bs : List Value} {w w' : World} (h : Lib.BuilderAtF T e B b p bs w) (hb : Below w.heap.size w w') : Lib.BuilderAtF T e B b p bs w' := by
  have hlt := h.lt
  obtain ⟨hB, v, hk, hown, hne⟩ := h
  refine ⟨hB, v, (hb.block b hlt).trans hk, hown.kept (row := none) ⟨hb.os, hb.tape, hb.output, hb.size, fun k hk _ => hb.block k hk⟩ (by cases hv : v.ownBlock <;> simp), hne⟩
theorem IsB.below {w w' : World} {B b : Nat} {o : ByteArray} (h : IsB w B b o) (hb : Below w.heap.size w w') : IsB w' B b o := h.elim (fun x => .inl (at_below x hb)) (fun x => .inr (at_below x hb))
def laysWS_ren : Go.Shelf.Ren := ⟨fun | 166 => 33 | 240 => 53 | 276 => 63 | n => n, fun | 70 => 45 | 9 => 9 | 3 => 3 | 75 => 68 | 0 => 0 | 72 => 48 | 37 => 46 | 4 => 4 | 164 => 111 | 80 => 53 | 5 => 5 | n => n, fun | n => n⟩
theorem laysWS : Go.Proofs.Lays.n166 Tryz.prog laysWS_ren := {
  mixed := by kernel_rfl
  f166 := Tryz.func33.trans (congrArg some (by kernel_rfl))
  f240 := Tryz.func53.trans (congrArg some (by kernel_rfl))
  f276 := Tryz.func63.trans (congrArg some (by kernel_rfl))
  t0 := Tryz.underlying0
  a0 := Tryz.isAgg0
  z0 := Tryz.sizeOf0
  v0 := Tryz.zeroValue0
  t3 := Tryz.underlying3
  a3 := Tryz.isAgg3
  z3 := Tryz.sizeOf3
  v3 := Tryz.zeroValue3
  t4 := Tryz.underlying4
  a4 := Tryz.isAgg4
  z4 := Tryz.sizeOf4
  v4 := Tryz.zeroValue4
  t9 := Tryz.underlying9
  a9 := Tryz.isAgg9
  z9 := Tryz.sizeOf9
  v9 := Tryz.zeroValue9
  t20 := Tryz.underlying20
  a20 := Tryz.isAgg20
  z20 := Tryz.sizeOf20
  v20 := Tryz.zeroValue20
  t37 := Tryz.underlying46
  a37 := Tryz.isAgg46
  z37 := Tryz.sizeOf46
  v37 := Tryz.zeroValue46
  t70 := Tryz.underlying45
  a70 := Tryz.isAgg45
  z70 := Tryz.sizeOf45
  v70 := Tryz.zeroValue45
  t72 := Tryz.underlying48
  a72 := Tryz.isAgg48
  z72 := Tryz.sizeOf48
  v72 := Tryz.zeroValue48
  t75 := Tryz.underlying68
  a75 := Tryz.isAgg68
  z75 := Tryz.sizeOf68
  v75 := Tryz.zeroValue68
  t164 := Tryz.underlying111
  a164 := Tryz.isAgg111
  z164 := Tryz.sizeOf111
  v164 := Tryz.zeroValue111 }
theorem extraWS : Builder.Extra Tryz.prog laysWS_ren := { sizeBuilder := by kernel_rfl, liesBuilder := by kernel_rfl, t5 := Tryz.underlying5, a5 := Tryz.isAgg5, z5 := Tryz.sizeOf5, v5 := Tryz.zeroValue5, infoByte := by kernel_rfl, cellsByte := by kernel_rfl, sizeByte := by kernel_rfl, neB5 := by decide }
theorem write_str (B b : Nat) (o s : ByteArray) (w : World) (h : IsB w B b o) (hlen : o.size + s.size ≤ 140737488355328) (hBw : B ≤ w.heap.size) :
    Calls Tryz.prog 33 #[.pointer (some ⟨b, 0, none⟩), .string s] w fun e w' => e = .returned (.tuple #[.int .i64 s.size, .nilIface]) ∧ IsB w' B b (o ++ s) ∧ Below B w w' ∧ Lib.OthersKept 5 (some b) w w' := by
  refine (Any.Builder_WriteString_k laysWS extraWS B b (Lib.byteCells o.data.toList) s w h (by rw [cells_len, size_list]; exact hlen) hBw).mono ?_
  rintro e w' ⟨he, h1, h2, h3⟩
  rw [str_cells, ← cells_append, ← data_append] at h1
  exact ⟨he, .inr h1, h2, h3⟩
def laysWB_ren : Go.Shelf.Ren := ⟨fun | 167 => 78 | 240 => 53 | 276 => 63 | n => n, fun | 70 => 45 | 5 => 5 | 75 => 68 | 0 => 0 | 72 => 48 | 37 => 46 | 4 => 4 | 164 => 111 | 80 => 53 | 9 => 9 | n => n, fun | n => n⟩
theorem laysWB : Go.Proofs.Lays.n167 Tryz.prog laysWB_ren := {
  mixed := by kernel_rfl
  f167 := Tryz.func78.trans (congrArg some (by kernel_rfl))
  f240 := Tryz.func53.trans (congrArg some (by kernel_rfl))
  f276 := Tryz.func63.trans (congrArg some (by kernel_rfl))
  t0 := Tryz.underlying0
  a0 := Tryz.isAgg0
  z0 := Tryz.sizeOf0
  v0 := Tryz.zeroValue0
  t4 := Tryz.underlying4
  a4 := Tryz.isAgg4
  z4 := Tryz.sizeOf4
  v4 := Tryz.zeroValue4
  t5 := Tryz.underlying5
  a5 := Tryz.isAgg5
  z5 := Tryz.sizeOf5
  v5 := Tryz.zeroValue5
  t9 := Tryz.underlying9
  a9 := Tryz.isAgg9
  z9 := Tryz.sizeOf9
  v9 := Tryz.zeroValue9
  t20 := Tryz.underlying20
  a20 := Tryz.isAgg20
  z20 := Tryz.sizeOf20
  v20 := Tryz.zeroValue20
  t37 := Tryz.underlying46
  a37 := Tryz.isAgg46
  z37 := Tryz.sizeOf46
  v37 := Tryz.zeroValue46
  t70 := Tryz.underlying45
  a70 := Tryz.isAgg45
  z70 := Tryz.sizeOf45
  v70 := Tryz.zeroValue45
  t72 := Tryz.underlying48
  a72 := Tryz.isAgg48
  z72 := Tryz.sizeOf48
  v72 := Tryz.zeroValue48
  t75 := Tryz.underlying68
  a75 := Tryz.isAgg68
  z75 := Tryz.sizeOf68
  v75 := Tryz.zeroValue68
  t164 := Tryz.underlying111
  a164 := Tryz.isAgg111
  z164 := Tryz.sizeOf111
  v164 := Tryz.zeroValue111 }
theorem extraWB : Builder.Extra Tryz.prog laysWB_ren := { sizeBuilder := by kernel_rfl, liesBuilder := by kernel_rfl, t5 := Tryz.underlying5, a5 := Tryz.isAgg5, z5 := Tryz.sizeOf5, v5 := Tryz.zeroValue5, infoByte := by kernel_rfl, cellsByte := by kernel_rfl, sizeByte := by kernel_rfl, neB5 := by decide }
theorem write_byte (B b : Nat) (o : ByteArray) (c : UInt8) (w : World) (h : IsB w B b o) (hlen : o.size + 1 ≤ 140737488355328) (hBw : B ≤ w.heap.size) :
    Calls Tryz.prog 78 #[.pointer (some ⟨b, 0, none⟩), .int .u8 c.toNat] w fun e w' => e = .returned .nilIface ∧ IsB w' B b (o ++ ⟨#[c]⟩) ∧ Below B w w' ∧ Lib.OthersKept 5 (some b) w w' := by
  refine (Any.Builder_WriteByte_k laysWB extraWB B b (Lib.byteCells o.data.toList) c.toNat w h (by rw [cells_len, size_list]; exact hlen) hBw).mono ?_
  rintro e w' ⟨he, h1, h2, h3⟩
  have e1 : Lib.byteCells o.data.toList ++ [.int .u8 c.toNat] = Lib.byteCells (o ++ ⟨#[c]⟩).data.toList := by rw [data_append, cells_append]; rfl
  rw [e1] at h1
  exact ⟨he, .inr h1, h2, h3⟩
def laysST_ren : Go.Shelf.Ren := ⟨fun | 169 => 21 | n => n, fun | 70 => 45 | 9 => 9 | 0 => 0 | 72 => 48 | 37 => 46 | 127 => 71 | 3 => 3 | 5 => 5 | n => n, fun | n => n⟩
theorem laysST : Go.Proofs.Lays.n169 Tryz.prog laysST_ren := {
  mixed := by kernel_rfl
  f169 := Tryz.func21.trans (congrArg some (by kernel_rfl))
  t0 := Tryz.underlying0
  a0 := Tryz.isAgg0
  z0 := Tryz.sizeOf0
  v0 := Tryz.zeroValue0
  t3 := Tryz.underlying3
  a3 := Tryz.isAgg3
  z3 := Tryz.sizeOf3
  v3 := Tryz.zeroValue3
  t9 := Tryz.underlying9
  a9 := Tryz.isAgg9
  z9 := Tryz.sizeOf9
  v9 := Tryz.zeroValue9
  t37 := Tryz.underlying46
  a37 := Tryz.isAgg46
  z37 := Tryz.sizeOf46
  v37 := Tryz.zeroValue46
  t70 := Tryz.underlying45
  a70 := Tryz.isAgg45
  z70 := Tryz.sizeOf45
  v70 := Tryz.zeroValue45
  t72 := Tryz.underlying48
  a72 := Tryz.isAgg48
  z72 := Tryz.sizeOf48
  v72 := Tryz.zeroValue48
  t127 := Tryz.underlying71
  a127 := Tryz.isAgg71
  z127 := Tryz.sizeOf71
  v127 := Tryz.zeroValue71 }
theorem extraST : Builder.Extra Tryz.prog laysST_ren := { sizeBuilder := by kernel_rfl, liesBuilder := by kernel_rfl, t5 := Tryz.underlying5, a5 := Tryz.isAgg5, z5 := Tryz.sizeOf5, v5 := Tryz.zeroValue5, infoByte := by kernel_rfl, cellsByte := by kernel_rfl, sizeByte := by kernel_rfl, neB5 := by decide }
theorem to_str (B b : Nat) (o : ByteArray) (w : World) (h : IsB w B b o) (hBw : B ≤ w.heap.size) :
    Calls Tryz.prog 21 #[.pointer (some ⟨b, 0, none⟩)] w fun e w' => e = .returned (.string o) ∧ IsB w' B b o ∧ Below B w w' := by
  refine (Any.Builder_String_any_k laysST extraST B b o.data.toList w h hBw).mono ?_
  rintro e w' ⟨he, h1, h2, h3⟩
  have e1 : (⟨o.data.toList.toArray⟩ : ByteArray) = o := by rw [Array.toArray_toList]
  rw [e1] at he
  exact ⟨he, h1, h2⟩
end Go.Proofs.YtmiiilamjbhheaaGreatDoor.builders
