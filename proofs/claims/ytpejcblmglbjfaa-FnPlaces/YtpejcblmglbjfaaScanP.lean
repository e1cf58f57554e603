/-
  A text's signs, one behind the other: plain.
-/
import Derived.Test.YtpejcblmglbjfaaPlain
namespace Go.Proofs.Ytpejcblmglbjfaa.scans
open Go.RowKit
set_option linter.unusedVariables false

def scan (s : ByteArray) (ok : Int → Bool) : Nat → Nat → Bool
  | 0, _ => true
  | f + 1, pos => if pos < s.size then (decide (Utf8.decode s pos ≠ (65533, 1)) && ok ((Utf8.decode s pos).1 : Int) && scan s ok f (pos + (Utf8.decode s pos).2)) else true
theorem scan_end (s : ByteArray) (ok : Int → Bool) (f pos : Nat) (h : ¬ pos < s.size) : scan s ok f pos = true := by
  cases f with
  | zero => rfl
  | succ f => simp [scan, h]
theorem scan_bad (s : ByteArray) (ok : Int → Bool) (f pos : Nat) (h : pos < s.size) (hf : s.size ≤ pos + f) (hb : Utf8.decode s pos = (65533, 1) ∨ ok ((Utf8.decode s pos).1 : Int) = false) : scan s ok f pos = false := by
  cases f with
  | zero => omega
  | succ f =>
    rw [scan, if_pos h]
    rcases hb with hb | hb
    · simp [hb]
    · simp [hb]
theorem scan_good (s : ByteArray) (ok : Int → Bool) (f pos : Nat) (h : pos < s.size) (hf : s.size ≤ pos + f) (hb : Utf8.decode s pos ≠ (65533, 1)) (ho : ok ((Utf8.decode s pos).1 : Int) = true) :
    ∃ g, scan s ok f pos = scan s ok g (pos + (Utf8.decode s pos).2) ∧ s.size ≤ pos + (Utf8.decode s pos).2 + g := by
  cases f with
  | zero => omega
  | succ f =>
    refine ⟨f, ?_, ?_⟩
    · rw [scan, if_pos h]; simp [hb, ho]
    · have := dec.decode_pos s pos h; omega
end Go.Proofs.Ytpejcblmglbjfaa.scans
