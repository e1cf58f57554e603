/-
  The library's strings.Builder, of the call's own: what WriteString, WriteByte and String do, by the shelf's contracts.
-/
import Derived.Test.YtdojkaboejndiaaRows
import Derived.Test.YtdojkaboejndiaaChecked
import Derived.Shelf.Strings.BuilderK
import Derived.WalkKit
import Derived.Below
namespace Go.Proofs.Ytdojkaboejndiaa.builders
open Go.RowKit Go.Shelf
set_option linter.unusedVariables false
/-- Block b is a builder, made since B, that holds o. -/
def IsB (w : World) (B b : Nat) (o : ByteArray) : Prop := Lib.IsBuilderF 30 5 B b (Lib.byteCells o.data.toList) w
theorem cells_append (l m : List UInt8) : Lib.byteCells (l ++ m) = Lib.byteCells l ++ Lib.byteCells m := by
  unfold Lib.byteCells
  rw [List.map_append]
theorem str_cells (s : ByteArray) : Lib.strCells s = Lib.byteCells s.data.toList := rfl
theorem cells_len (l : List UInt8) : (Lib.byteCells l).length = l.length := by
  unfold Lib.byteCells
  rw [List.length_map]
theorem size_list (s : ByteArray) : s.data.toList.length = s.size := by rw [Array.length_toList]; rfl
theorem data_append (a b : ByteArray) : (a ++ b).data.toList = a.data.toList ++ b.data.toList := by
  rw [ByteArray.data_append, Array.toList_append]
theorem made (w : World) (B : Nat) (hB : B ≤ w.heap.size) : IsB (w.alloc (.cells #[.pointer none, .slice none 0 0] 30)) B w.heap.size ⟨#[]⟩ :=
  .inl ⟨hB, .slice none 0 0, heap_alloc_new w _, ⟨by decide, .inl ⟨rfl, rfl⟩⟩, by simp [Value.ownBlock]⟩
theorem IsB.lt {w : World} {B b : Nat} {o : ByteArray} (h : IsB w B b o) : b < w.heap.size := h.elim (fun x => x.lt) (fun x => x.lt)
theorem IsB.ge {w : World} {B b : Nat} {o : ByteArray} (h : IsB w B b o) : B ≤ b := h.elim (fun x => x.1) (fun x => x.1)
theorem at_below {T e : TypeId} {B b : Nat} {p : Value} {bs : List Value} {w w' : World} (h : Lib.BuilderAtF T e B b p bs w) (hb : Below w.heap.size w w') : Lib.BuilderAtF T e B b p bs w' := by
  have hlt := h.lt
  obtain ⟨hB, v, hk, hown, hne⟩ := h
  refine ⟨hB, v, (hb.block b hlt).trans hk, hown.kept (row := none) ⟨hb.os, hb.tape, hb.output, hb.size, fun k hk _ => hb.block k hk⟩ (by cases hv : v.ownBlock <;> simp), hne⟩
theorem IsB.below {w w' : World} {B b : Nat} {o : ByteArray} (h : IsB w B b o) (hb : Below w.heap.size w w') : IsB w' B b o := h.elim (fun x => .inl (at_below x hb)) (fun x => .inr (at_below x hb))
def laysWS_ren : Go.Shelf.Ren := ⟨fun | 166 => 13 | 240 => 16 | 276 => 17 | n => n, fun | 70 => 27 | 9 => 9 | 3 => 3 | 75 => 32 | 0 => 0 | 72 => 30 | 37 => 28 | 4 => 4 | 164 => 38 | 80 => 36 | 5 => 5 | n => n, fun | n => n⟩
theorem laysWS : Go.Proofs.Lays.n166 Try.prog laysWS_ren := {
  mixed := by kernel_rfl
  f166 := Try.func13.trans (congrArg some (by kernel_rfl))
  f240 := Try.func16.trans (congrArg some (by kernel_rfl))
  f276 := Try.func17.trans (congrArg some (by kernel_rfl))
  t0 := Try.underlying0
  a0 := Try.isAgg0
  z0 := Try.sizeOf0
  v0 := Try.zeroValue0
  t3 := Try.underlying3
  a3 := Try.isAgg3
  z3 := Try.sizeOf3
  v3 := Try.zeroValue3
  t4 := Try.underlying4
  a4 := Try.isAgg4
  z4 := Try.sizeOf4
  v4 := Try.zeroValue4
  t9 := Try.underlying9
  a9 := Try.isAgg9
  z9 := Try.sizeOf9
  v9 := Try.zeroValue9
  t20 := Try.underlying20
  a20 := Try.isAgg20
  z20 := Try.sizeOf20
  v20 := Try.zeroValue20
  t37 := Try.underlying28
  a37 := Try.isAgg28
  z37 := Try.sizeOf28
  v37 := Try.zeroValue28
  t70 := Try.underlying27
  a70 := Try.isAgg27
  z70 := Try.sizeOf27
  v70 := Try.zeroValue27
  t72 := Try.underlying30
  a72 := Try.isAgg30
  z72 := Try.sizeOf30
  v72 := Try.zeroValue30
  t75 := Try.underlying32
  a75 := Try.isAgg32
  z75 := Try.sizeOf32
  v75 := Try.zeroValue32
  t164 := Try.underlying38
  a164 := Try.isAgg38
  z164 := Try.sizeOf38
  v164 := Try.zeroValue38 }
theorem extraWS : Builder.Extra Try.prog laysWS_ren := { sizeBuilder := by kernel_rfl, liesBuilder := by kernel_rfl, t5 := Try.underlying5, a5 := Try.isAgg5, z5 := Try.sizeOf5, v5 := Try.zeroValue5, infoByte := by kernel_rfl, cellsByte := by kernel_rfl, sizeByte := by kernel_rfl, neB5 := by decide }
theorem write_str (B b : Nat) (o s : ByteArray) (w : World) (h : IsB w B b o) (hlen : o.size + s.size ≤ 140737488355328) (hBw : B ≤ w.heap.size) :
    Calls Try.prog 13 #[.pointer (some ⟨b, 0, none⟩), .string s] w fun e w' => e = .returned (.tuple #[.int .i64 s.size, .nilIface]) ∧ IsB w' B b (o ++ s) ∧ Below B w w' ∧ Lib.OthersKept 5 (some b) w w' := by
  refine (Any.Builder_WriteString_k laysWS extraWS B b (Lib.byteCells o.data.toList) s w h (by rw [cells_len, size_list]; exact hlen) hBw).mono ?_
  rintro e w' ⟨he, h1, h2, h3⟩
  rw [str_cells, ← cells_append, ← data_append] at h1
  exact ⟨he, .inr h1, h2, h3⟩
def laysWB_ren : Go.Shelf.Ren := ⟨fun | 167 => 14 | 240 => 16 | 276 => 17 | n => n, fun | 70 => 27 | 5 => 5 | 75 => 32 | 0 => 0 | 72 => 30 | 37 => 28 | 4 => 4 | 164 => 38 | 80 => 36 | 9 => 9 | n => n, fun | n => n⟩
theorem laysWB : Go.Proofs.Lays.n167 Try.prog laysWB_ren := {
  mixed := by kernel_rfl
  f167 := Try.func14.trans (congrArg some (by kernel_rfl))
  f240 := Try.func16.trans (congrArg some (by kernel_rfl))
  f276 := Try.func17.trans (congrArg some (by kernel_rfl))
  t0 := Try.underlying0
  a0 := Try.isAgg0
  z0 := Try.sizeOf0
  v0 := Try.zeroValue0
  t4 := Try.underlying4
  a4 := Try.isAgg4
  z4 := Try.sizeOf4
  v4 := Try.zeroValue4
  t5 := Try.underlying5
  a5 := Try.isAgg5
  z5 := Try.sizeOf5
  v5 := Try.zeroValue5
  t9 := Try.underlying9
  a9 := Try.isAgg9
  z9 := Try.sizeOf9
  v9 := Try.zeroValue9
  t20 := Try.underlying20
  a20 := Try.isAgg20
  z20 := Try.sizeOf20
  v20 := Try.zeroValue20
  t37 := Try.underlying28
  a37 := Try.isAgg28
  z37 := Try.sizeOf28
  v37 := Try.zeroValue28
  t70 := Try.underlying27
  a70 := Try.isAgg27
  z70 := Try.sizeOf27
  v70 := Try.zeroValue27
  t72 := Try.underlying30
  a72 := Try.isAgg30
  z72 := Try.sizeOf30
  v72 := Try.zeroValue30
  t75 := Try.underlying32
  a75 := Try.isAgg32
  z75 := Try.sizeOf32
  v75 := Try.zeroValue32
  t164 := Try.underlying38
  a164 := Try.isAgg38
  z164 := Try.sizeOf38
  v164 := Try.zeroValue38 }
theorem extraWB : Builder.Extra Try.prog laysWB_ren := { sizeBuilder := by kernel_rfl, liesBuilder := by kernel_rfl, t5 := Try.underlying5, a5 := Try.isAgg5, z5 := Try.sizeOf5, v5 := Try.zeroValue5, infoByte := by kernel_rfl, cellsByte := by kernel_rfl, sizeByte := by kernel_rfl, neB5 := by decide }
theorem write_byte (B b : Nat) (o : ByteArray) (c : UInt8) (w : World) (h : IsB w B b o) (hlen : o.size + 1 ≤ 140737488355328) (hBw : B ≤ w.heap.size) :
    Calls Try.prog 14 #[.pointer (some ⟨b, 0, none⟩), .int .u8 c.toNat] w fun e w' => e = .returned .nilIface ∧ IsB w' B b (o ++ ⟨#[c]⟩) ∧ Below B w w' ∧ Lib.OthersKept 5 (some b) w w' := by
  refine (Any.Builder_WriteByte_k laysWB extraWB B b (Lib.byteCells o.data.toList) c.toNat w h (by rw [cells_len, size_list]; exact hlen) hBw).mono ?_
  rintro e w' ⟨he, h1, h2, h3⟩
  have e1 : Lib.byteCells o.data.toList ++ [.int .u8 c.toNat] = Lib.byteCells (o ++ ⟨#[c]⟩).data.toList := by rw [data_append, cells_append]; rfl
  rw [e1] at h1
  exact ⟨he, .inr h1, h2, h3⟩
def laysST_ren : Go.Shelf.Ren := ⟨fun | 169 => 15 | n => n, fun | 70 => 27 | 9 => 9 | 0 => 0 | 72 => 30 | 37 => 28 | 127 => 37 | 3 => 3 | 5 => 5 | n => n, fun | n => n⟩
theorem laysST : Go.Proofs.Lays.n169 Try.prog laysST_ren := {
  mixed := by kernel_rfl
  f169 := Try.func15.trans (congrArg some (by kernel_rfl))
  t0 := Try.underlying0
  a0 := Try.isAgg0
  z0 := Try.sizeOf0
  v0 := Try.zeroValue0
  t3 := Try.underlying3
  a3 := Try.isAgg3
  z3 := Try.sizeOf3
  v3 := Try.zeroValue3
  t9 := Try.underlying9
  a9 := Try.isAgg9
  z9 := Try.sizeOf9
  v9 := Try.zeroValue9
  t37 := Try.underlying28
  a37 := Try.isAgg28
  z37 := Try.sizeOf28
  v37 := Try.zeroValue28
  t70 := Try.underlying27
  a70 := Try.isAgg27
  z70 := Try.sizeOf27
  v70 := Try.zeroValue27
  t72 := Try.underlying30
  a72 := Try.isAgg30
  z72 := Try.sizeOf30
  v72 := Try.zeroValue30
  t127 := Try.underlying37
  a127 := Try.isAgg37
  z127 := Try.sizeOf37
  v127 := Try.zeroValue37 }
theorem extraST : Builder.Extra Try.prog laysST_ren := { sizeBuilder := by kernel_rfl, liesBuilder := by kernel_rfl, t5 := Try.underlying5, a5 := Try.isAgg5, z5 := Try.sizeOf5, v5 := Try.zeroValue5, infoByte := by kernel_rfl, cellsByte := by kernel_rfl, sizeByte := by kernel_rfl, neB5 := by decide }
theorem to_str (B b : Nat) (o : ByteArray) (w : World) (h : IsB w B b o) (hBw : B ≤ w.heap.size) :
    Calls Try.prog 15 #[.pointer (some ⟨b, 0, none⟩)] w fun e w' => e = .returned (.string o) ∧ IsB w' B b o ∧ Below B w w' := by
  refine (Any.Builder_String_any_k laysST extraST B b o.data.toList w h hBw).mono ?_
  rintro e w' ⟨he, h1, h2, h3⟩
  have e1 : (⟨o.data.toList.toArray⟩ : ByteArray) = o := by rw [Array.toArray_toList]
  rw [e1] at he
  exact ⟨he, h1, h2⟩
end Go.Proofs.Ytdojkaboejndiaa.builders
