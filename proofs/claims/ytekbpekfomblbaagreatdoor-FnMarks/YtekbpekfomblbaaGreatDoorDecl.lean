/-
  What the specification's DeclOk and DeclsOk answer.
-/
import Derived.Test.YtekbpekfomblbaaGreatDoorDeclP
import Derived.Test.YtekbpekfomblbaaGreatDoorQuiet
import Derived.Deep.QuietTactic
import Derived.BigQuiet
import Derived.WalkSmall
import Derived.Laws.Cover1
namespace Go.Proofs.YtekbpekfomblbaaGreatDoor.scopes
open Go.ChangeShapes Go.WideShapes Go.ChangeAt Go.RowKit
open pairs (Pair at0 PairsAt)
set_option linter.unusedVariables false
theorem pre_empty {n u : ByteArray} (h : n.toList.isEmpty = true) : preB (n, u) = true := by unfold preB; rw [h]; rfl
theorem pre_plain {n u : ByteArray} (h : n.toList.isEmpty = false) (h1 : names.plainB n = false) : preB (n, u) = false := by unfold preB; simp only; rw [h, h1]; rfl
theorem pre_xml {n u : ByteArray} (h : n.toList.isEmpty = false) (h1 : xmlB n = true) : preB (n, u) = false := by unfold preB; simp only; rw [h, h1]; simp
theorem pre_uri {n u : ByteArray} (h : n.toList.isEmpty = false) (h1 : u.toList.isEmpty = true) : preB (n, u) = false := by unfold preB; simp only; rw [h, h1]; simp
theorem pre_yes {n u : ByteArray} (h : n.toList.isEmpty = false) (h1 : names.plainB n = true) (h2 : xmlB n = false) (h3 : u.toList.isEmpty = false) : preB (n, u) = true := by unfold preB; simp only; rw [h, h1, h2, h3]; rfl
theorem decl_pre {n u : ByteArray} (h : preB (n, u) = false) : declB (n, u) = false := by unfold declB; rw [h]; rfl
theorem decl_text {n u : ByteArray} (h : (decide (u.size ≤ 600) && scans.signs u) = false) : declB (n, u) = false := by unfold declB textB; simp only; rw [h]; simp
theorem decl_end {n u : ByteArray} (h : preB (n, u) = true) (h1 : (decide (u.size ≤ 600) && scans.signs u) = true) : declB (n, u) = decide ((u.size : Int) ≤ 40) := by
  unfold declB textB
  simp only
  rw [h, h1, Bool.true_and, Bool.true_and, Bool.eq_iff_iff]
  simp
  omega
end Go.Proofs.YtekbpekfomblbaaGreatDoor.scopes
