/-
  The laws' own marks: the decimal text of a number.
-/
import Derived.Test.YtpejcblmglbjfaaRows
import Derived.WalkKit
import Derived.ProofKit
import Derived.Outline
import Derived.LoopTactic
import Derived.OwnWalk
import Derived.Below
import Derived.WalkSmall
import Derived.Laws.BytesArg
import Derived.Lib.ConvBytes
namespace Go.Proofs.Ytpejcblmglbjfaa.marks
open Go.ChangeShapes Go.WideShapes Go.ChangeAt Go.RowKit
set_option linter.unusedVariables false
def digF : Nat → Nat → ByteArray → ByteArray
  | 0, _, out => out
  | f + 1, k, out => if 0 < k then digF f (k / 10) (strOfNums [48 + (k : Int) % 10] ++ out) else out
def markT (k : Nat) : ByteArray := if k = 0 then ⟨#[109, 48]⟩ else ⟨#[109]⟩ ++ digF k k ⟨#[]⟩
theorem dig_end (f : Nat) (out : ByteArray) : digF f 0 out = out := by
  cases f with
  | zero => rfl
  | succ f => rw [digF, if_neg (by omega)]
theorem dig_go {f k : Nat} {out : ByteArray} (hk : 0 < k) (hf : k ≤ f) : ∃ g, digF f k out = digF g (k / 10) (strOfNums [48 + (k : Int) % 10] ++ out) ∧ k / 10 ≤ g := by
  cases f with
  | zero => omega
  | succ f => exact ⟨f, by rw [digF, if_pos hk], by omega⟩
theorem ret_str {a b : ByteArray} (h : a = b) : Ending.returned (.string a) = .returned (.string b) := by rw [h]
theorem str_eq {a b : ByteArray} (h : a = b) : Value.string a = .string b := by rw [h]
theorem conv1 (w : World) (a : Int) : (convert 22 9 (.slice (some ⟨w.heap.size, 0, none⟩) 1 1)).run Try.prog (w.alloc (.cells #[.int .u8 a] 5)) = .ok (.string (strOfNums [a])) (w.alloc (.cells #[.int .u8 a] 5)) :=
  run_convert_bytes_arg _ 22 5 Try.underlying22 Try.underlying5 w.heap.size 0 1 1 [a] rfl (fun i hi => by
    obtain rfl : i = 0 := by omega
    simp) 9 Try.underlying9
set_option maxRecDepth 100000 in
set_option maxHeartbeats 2000000 in
theorem mark_text (k : Nat) (w : World) (hk : k ≤ 1000000000) : Calls Try.prog 77 #[.int .i64 k] w fun e w' => e = .returned (.string (markT k)) ∧ Below w.heap.size w w' := by
  by_cases h0 : k = 0
  · have HF : Hid (markT k = ⟨#[109, 48]⟩) := by show _ = _; unfold markT; rw [if_pos h0]
    have h0' : (k : Int) ≤ 0 := by omega
    clear h0
    go_enter Try.func77, Try.ntmps77
    go_wp2
    go_ret
    exact ⟨ret_str HF.out.symm, Below.refl _ _⟩
  · have HF : Hid (markT k = ⟨#[109]⟩ ++ digF k k ⟨#[]⟩) := by show _ = _; unfold markT; rw [if_neg h0]
    have h0' : ¬ (k : Int) ≤ 0 := by omega
    clear h0
    go_enter Try.func77, Try.ntmps77
    go_wp2
    go_loopw [0, 3] (fun t o wr => ∃ (j f : Nat) (out : ByteArray), out.size + j ≤ 1000000000 ∧ t = .int .i64 j ∧ o = .string out ∧ Hid (digF k k ⟨#[]⟩ = digF f j out) ∧ Hid (j ≤ f) ∧ Hid (Below w.heap.size w wr)) (fun t _ _ => (intOf t).toNat)
    case atStart => exact ⟨k, k, ⟨#[]⟩, (by show 0 + k ≤ _; omega), rfl, rfl, rfl, Nat.le_refl _, Below.refl _ _⟩
    case round =>
      obtain ⟨j, f, out, hj, rfl, rfl, hd, hf, hb⟩ := hrel
      by_cases hj0 : 0 < j
      · obtain ⟨g, hg1, hg2⟩ := dig_go (out := out) hj0 hf.out
        have HG1 : Hid _ := hg1
        have HG2 : Hid _ := hg2
        have hj1 : (0 : Int) < j := by omega
        clear hg1 hg2
        have hcv := conv1
        have hone : (strOfNums [48 + (j : Int) % 10]).size = 1 := strOfNums_size _
        go_wp2
        go_roundw
        case rel => exact ⟨j / 10, g, _, (by rw [ByteArray.size_append, hone]; omega), by go_num, rfl, (by show _ = _; rw [hd.out, HG1.out]), HG2.out, hb.out.alloc hb.out.size _⟩
        case measure => simp [intOf]; omega
      · have HE : Hid (digF k k ⟨#[]⟩ = out) := by show _ = _; rw [hd.out, show j = 0 by omega]; exact dig_end f out
        have hj1 : ¬ (0 : Int) < j := by omega
        go_wp2
        go_ret
        exact ⟨ret_str (by rw [HF.out, HE.out]), hb.out⟩
end Go.Proofs.Ytpejcblmglbjfaa.marks
