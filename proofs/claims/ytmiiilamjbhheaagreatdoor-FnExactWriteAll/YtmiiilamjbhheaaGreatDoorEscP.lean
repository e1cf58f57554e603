/-
  What is escaped, plain: byte by byte; and line ends.
-/
import Derived.Test.YtmiiilamjbhheaaGreatDoorRows
import Derived.WalkKit
import Derived.ProofKit
import Derived.Laws.BytesArg
namespace Go.Proofs.YtmiiilamjbhheaaGreatDoor.escs
open Go.RowKit
set_option linter.unusedVariables false

/-- What stands for a byte. -/
def escA (attr : Bool) (b : Int) (own : ByteArray) : ByteArray :=
  if b = 38 then ⟨#[38, 97, 109, 112, 59]⟩ else if b = 60 then ⟨#[38, 108, 116, 59]⟩ else if b = 62 then ⟨#[38, 103, 116, 59]⟩ else if b = 13 then ⟨#[38, 35, 49, 51, 59]⟩ else
  if attr = true ∧ b = 34 then ⟨#[38, 113, 117, 111, 116, 59]⟩ else if attr = true ∧ b = 9 then ⟨#[38, 35, 57, 59]⟩ else if attr = true ∧ b = 10 then ⟨#[38, 35, 49, 48, 59]⟩ else own
theorem escA_own {attr : Bool} {b : Int} (own : ByteArray) (h1 : b ≠ 38) (h2 : b ≠ 60) (h3 : b ≠ 62) (h4 : b ≠ 13) (h5 : ¬ (attr = true ∧ b = 34)) (h6 : ¬ (attr = true ∧ b = 9)) (h7 : ¬ (attr = true ∧ b = 10)) : escA attr b own = own := by
  unfold escA; rw [if_neg h1, if_neg h2, if_neg h3, if_neg h4, if_neg h5, if_neg h6, if_neg h7]
def byteAt (s : ByteArray) (i : Nat) : Int := ((s.get! i).toNat : Int)
theorem byteAt_range (s : ByteArray) (i : Nat) : 0 ≤ byteAt s i ∧ byteAt s i ≤ 255 := by
  have := (s.get! i).toNat_lt
  unfold byteAt
  omega
def escAt (attr : Bool) (s : ByteArray) (i : Nat) : ByteArray := escA attr (byteAt s i) (s.extract i (i + 1))
def escT (attr : Bool) (s : ByteArray) : Nat → ByteArray
  | 0 => ⟨#[]⟩
  | k + 1 => escT attr s k ++ escAt attr s k
def escS (attr : Bool) (s : ByteArray) : ByteArray := escT attr s s.size
theorem escA_size (attr : Bool) (b : Int) (own : ByteArray) (h : own.size ≤ 1) : (escA attr b own).size ≤ 6 := by
  unfold escA
  repeat' split
  all_goals first | exact Nat.le_trans h (by decide) | decide
theorem escAt_size (attr : Bool) (s : ByteArray) (i : Nat) : (escAt attr s i).size ≤ 6 := escA_size _ _ _ (by rw [ByteArray.size_extract]; omega)
theorem escT_size (attr : Bool) (s : ByteArray) : ∀ k, (escT attr s k).size ≤ 6 * k
  | 0 => Nat.zero_le _
  | k + 1 => by
    rw [escT, ByteArray.size_append]
    have := escT_size attr s k
    have := escAt_size attr s k
    omega
/-! ### Line ends -/
/-- What a byte leaves: of a byte 13 nothing, if a byte 10 stands behind it, else a byte 10. -/
def normAt (s : ByteArray) (i : Nat) : List Int := if byteAt s i ≠ 13 then [byteAt s i] else if i + 1 = s.size ∨ byteAt s (i + 1) ≠ 10 then [10] else []
def normT (s : ByteArray) : Nat → List Int
  | 0 => []
  | k + 1 => normT s k ++ normAt s k
def normS (s : ByteArray) : ByteArray := strOfNums (normT s s.size)
theorem normAt_len (s : ByteArray) (i : Nat) : (normAt s i).length ≤ 1 := by
  unfold normAt
  repeat' split
  all_goals simp
theorem normT_len (s : ByteArray) : ∀ k, (normT s k).length ≤ k
  | 0 => Nat.zero_le _
  | k + 1 => by
    rw [normT, List.length_append]
    have := normT_len s k
    have := normAt_len s k
    omega
theorem get_of (s : ByteArray) (i : Nat) (h : i < s.size) : s.get! i = s[i] := by
  obtain ⟨a⟩ := s
  show a[i]! = _
  exact getElem!_pos a i h
theorem idx (s : ByteArray) (j : Nat) (h : j < s.size) (W : World) : (Instr.index 9 (.string s) (.int .i64 (j : Int))).run Tryz.prog W = .ok (.int .u8 (byteAt s j)) W := by
  rw [run_index_string W 9 s .i64 j Tryz.underlying9, dif_pos ⟨by omega, by omega⟩]
  unfold byteAt
  rw [get_of s j h]
  simp
theorem cut (s : ByteArray) (i j : Nat) (h : i ≤ j) (h2 : j ≤ s.size) (W : World) : (Instr.slice 9 (.string s) (some (.int .i64 (i : Int))) (some (.int .i64 (j : Int))) none).run Tryz.prog W = .ok (.string (s.extract i j)) W := by
  have := run_slice_string (P := Tryz.prog) (w := W) 9 s .i64 .i64 (i : Int) (j : Int) Tryz.underlying9 (by omega) (by omega) (by omega)
  simpa using this
theorem cut1 (s : ByteArray) (i : Nat) (h : i < s.size) (W : World) : (Instr.slice 9 (.string s) (some (.int .i64 (i : Int))) (some (.int .i64 ((i : Int) + 1))) none).run Tryz.prog W = .ok (.string (s.extract i (i + 1))) W := cut s i (i + 1) (by omega) (by omega) W
end Go.Proofs.YtmiiilamjbhheaaGreatDoor.escs
