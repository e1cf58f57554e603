/-
  A part ahead that is right, plain.
-/
import Derived.Test.YtpejcblmglbjfaaScopeP
import Derived.Test.YtpejcblmglbjfaaScanS
import Derived.Test.YtpejcblmglbjfaaNames
namespace Go.Proofs.Ytpejcblmglbjfaa.scopes
open Go.RowKit
open pairs (Pair at0)
set_option linter.unusedVariables false
/-! ### One that is right -/
def xmlB (s : ByteArray) : Bool := decide (3 ≤ s.size) && ((s.extract 0 3).toList == [120, 109, 108])
def textB (s : ByteArray) : Bool := decide (s.size ≤ 600) && scans.signs s
def preB (p : Pair) : Bool := p.1.toList.isEmpty || (names.plainB p.1 && (!xmlB p.1 && !p.2.toList.isEmpty))
def declB (p : Pair) : Bool := preB p && (textB p.2 && decide (p.2.size ≤ 40))
def ascB (L : List Pair) (i : Nat) : Bool := decide (i = 0) || Op.bytesLess (at0 L (i - 1)).1.toList (at0 L i).1.toList
def declsB (L : List Pair) : Bool := ((List.range L.length).all fun i => declB (at0 L i) && ascB L i) && decide (L.length ≤ 4)
theorem decls_no {L : List Pair} {i : Nat} (hi : i < L.length) (h : (declB (at0 L i) && ascB L i) = false) : declsB L = false := by
  unfold declsB
  have : ((List.range L.length).all fun i => declB (at0 L i) && ascB L i) = false := by
    rw [List.all_eq_false]
    exact ⟨i, List.mem_range.2 hi, by rw [h]; decide⟩
  rw [this]; rfl
theorem decls_end {L : List Pair} (h : ∀ i, i < L.length → (declB (at0 L i) && ascB L i) = true) : declsB L = decide ((L.length : Int) ≤ 4) := by
  unfold declsB
  have : ((List.range L.length).all fun i => declB (at0 L i) && ascB L i) = true := by
    rw [List.all_eq_true]
    exact fun i hi => h i (List.mem_range.1 hi)
  rw [this, Bool.true_and, Bool.eq_iff_iff]
  simp
  omega
theorem asc_zero {L : List Pair} : ascB L 0 = true := rfl
theorem asc_more {L : List Pair} {i : Nat} (h : 0 < i) : ascB L i = Op.bytesLess (at0 L (i - 1)).1.toList (at0 L i).1.toList := by
  unfold ascB
  rw [decide_eq_false (by omega), Bool.false_or]

theorem upto_next {L : List Pair} {i : Nat} (h : ∀ j, j < i → (declB (at0 L j) && ascB L j) = true) (h1 : (declB (at0 L i) && ascB L i) = true) : ∀ j, j < i + 1 → (declB (at0 L j) && ascB L j) = true := fun j hj => by
  by_cases e : j = i
  · rw [e]; exact h1
  · exact h j (by omega)
end Go.Proofs.Ytpejcblmglbjfaa.scopes
