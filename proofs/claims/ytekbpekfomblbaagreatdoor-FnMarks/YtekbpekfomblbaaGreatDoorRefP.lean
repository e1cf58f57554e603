/-
  What stands for something, plain: known names, numbers, entries, and what becomes of a text.
-/
import Derived.Test.YtekbpekfomblbaaGreatDoorEscP
import Derived.Test.YtekbpekfomblbaaGreatDoorPairs
import Derived.Test.YtekbpekfomblbaaGreatDoorScanS
import Derived.Test.YtekbpekfomblbaaGreatDoorNames
import Derived.Test.YtekbpekfomblbaaGreatDoorText
namespace Go.Proofs.YtekbpekfomblbaaGreatDoor.refs
open Go.RowKit
open escs (byteAt)
open pairs (Pair at0)
set_option linter.unusedVariables false
theorem ret_str {a b : ByteArray} (h : a = b) : Ending.returned (.string a) = .returned (.string b) := by rw [h]
theorem ret_int {a b : Int} (h : a = b) : Ending.returned (.int .i64 a) = .returned (.int .i64 b) := by rw [h]
theorem ret_bool {a b : Bool} (h : a = b) : Ending.returned (.bool a) = .returned (.bool b) := by rw [h]
def sb (x : ByteArray × Bool) : Value := .tuple #[.string x.1, .bool x.2]
theorem ret_sb {a : ByteArray} {b : Bool} {x : ByteArray × Bool} (h : x = (a, b)) : Ending.returned (.tuple #[.string a, .bool b]) = .returned (sb x) := by rw [h]; rfl

/-! ### Known names -/
def known (s : ByteArray) : ByteArray :=
  if (s.toList == [108, 116]) = true then ⟨#[60]⟩ else if (s.toList == [103, 116]) = true then ⟨#[62]⟩ else if (s.toList == [97, 109, 112]) = true then ⟨#[38]⟩ else
  if (s.toList == [97, 112, 111, 115]) = true then ⟨#[39]⟩ else if (s.toList == [113, 117, 111, 116]) = true then ⟨#[34]⟩ else ⟨#[]⟩
theorem known_size (s : ByteArray) : (known s).size ≤ 1 := by
  unfold known
  repeat' split
  all_goals decide

/-! ### Numbers -/
def digit (x : Int) : Int := if 48 ≤ x ∧ x ≤ 57 then x - 48 else if 97 ≤ x ∧ x ≤ 102 then x - 97 + 10 else if 65 ≤ x ∧ x ≤ 70 then x - 65 + 10 else -1
def digOk (base x : Int) : Bool := decide (0 ≤ digit x ∧ digit x < base)
def numTo (s : ByteArray) (base : Int) : Nat → Option Int
  | 0 => some 0
  | k + 1 => match numTo s base k with
    | none => none
    | some n => if digOk base (byteAt s k) = true then some (n * base + digit (byteAt s k)) else none
theorem numTo_bad {s : ByteArray} {base : Int} {k : Nat} (h : numTo s base k = none) : ∀ m, k ≤ m → numTo s base m = none
  | 0, hm => by rw [show k = 0 by omega] at h; exact h
  | m + 1, hm => by
    by_cases e : k = m + 1
    · rw [← e]; exact h
    · rw [numTo, numTo_bad h m (by omega)]
theorem numTo_stop {s : ByteArray} {base n : Int} {k : Nat} (h : numTo s base k = some n) (hd : digOk base (byteAt s k) = false) : numTo s base (k + 1) = none := by
  rw [numTo, h]; simp only; rw [hd]; rfl
theorem numTo_go {s : ByteArray} {base n : Int} {k : Nat} (h : numTo s base k = some n) (hd : digOk base (byteAt s k) = true) : numTo s base (k + 1) = some (n * base + digit (byteAt s k)) := by
  rw [numTo, h]; simp only; rw [hd]; rfl
def number (s : ByteArray) (base : Int) (most : Nat) : Int := if 1 ≤ s.size ∧ s.size ≤ most then (numTo s base s.size).getD (-1) else -1
theorem number_no {s : ByteArray} {base : Int} {most : Nat} (h : ¬ (1 ≤ s.size ∧ s.size ≤ most)) : number s base most = -1 := by unfold number; rw [if_neg h]
theorem number_bad {s : ByteArray} {base : Int} {most k : Nat} (hk : k ≤ s.size) (h : numTo s base k = none) : number s base most = -1 := by
  unfold number; split
  · rw [numTo_bad h _ hk]; rfl
  · rfl
theorem number_yes {s : ByteArray} {base n : Int} {most : Nat} (hz : 1 ≤ s.size ∧ s.size ≤ most) (h : numTo s base s.size = some n) : number s base most = n := by unfold number; rw [if_pos hz, h]; rfl

/-! ### Entries -/
def good (L : List Pair) (i : Nat) : Bool := names.plainB (at0 L i).1 && ((known (at0 L i).1).toList.isEmpty && (decide ((at0 L i).2.size ≤ 600) && scans.signs (at0 L i).2))
def uniq (L : List Pair) (i : Nat) : Bool := (List.range i).all fun k => !((at0 L k).1.toList == (at0 L i).1.toList)
def entsB (L : List Pair) : Bool := ((List.range L.length).all fun i => good L i && uniq L i) && decide (L.length ≤ 4)
theorem uniq_no {L : List Pair} {i k : Nat} (hk : k < i) (h : ((at0 L k).1.toList == (at0 L i).1.toList) = true) : uniq L i = false := by
  unfold uniq
  rw [List.all_eq_false]
  exact ⟨k, List.mem_range.2 hk, by rw [h]; decide⟩
theorem uniq_yes {L : List Pair} {i : Nat} (h : ∀ k, k < i → ((at0 L k).1.toList == (at0 L i).1.toList) = false) : uniq L i = true := by
  unfold uniq
  rw [List.all_eq_true]
  intro k hk
  rw [h k (List.mem_range.1 hk)]
  rfl
theorem ents_no {L : List Pair} {i : Nat} (hi : i < L.length) (h : (good L i && uniq L i) = false) : entsB L = false := by
  unfold entsB
  have : ((List.range L.length).all fun i => good L i && uniq L i) = false := by
    rw [List.all_eq_false]
    exact ⟨i, List.mem_range.2 hi, by rw [h]; decide⟩
  rw [this]; rfl
theorem ents_end {L : List Pair} (h : ∀ i, i < L.length → (good L i && uniq L i) = true) : entsB L = decide ((L.length : Int) ≤ 4) := by
  unfold entsB
  have : ((List.range L.length).all fun i => good L i && uniq L i) = true := by
    rw [List.all_eq_true]
    exact fun i hi => h i (List.mem_range.1 hi)
  rw [this, Bool.true_and]
  rw [Bool.eq_iff_iff]
  simp
  omega
def look (L : List Pair) (s : ByteArray) : ByteArray × Bool := match (List.range L.length).find? fun i => (at0 L i).1.toList == s.toList with
  | some i => ((at0 L i).2, true)
  | none => (⟨#[]⟩, false)
theorem look_some {L : List Pair} {s : ByteArray} {k : Nat} (hk : k < L.length) (h : ((at0 L k).1.toList == s.toList) = true) (h0 : ∀ j, j < k → ((at0 L j).1.toList == s.toList) = false) : look L s = ((at0 L k).2, true) := by
  unfold look
  have : (List.range L.length).find? (fun i => (at0 L i).1.toList == s.toList) = some k := by
    rw [List.find?_range_eq_some]
    exact ⟨h, by simpa using hk, fun j hj => by rw [h0 j hj]; rfl⟩
  rw [this]
theorem look_none {L : List Pair} {s : ByteArray} (h0 : ∀ j, j < L.length → ((at0 L j).1.toList == s.toList) = false) : look L s = (⟨#[]⟩, false) := by
  unfold look
  have : (List.range L.length).find? (fun i => (at0 L i).1.toList == s.toList) = none := by
    rw [List.find?_range_eq_none]
    exact fun j hj => by rw [h0 j hj]; rfl
  rw [this]

/-! ### What one stands for -/
def numOf (s : ByteArray) : Int := if byteAt s 1 = 120 then number (s.extract 2 s.size) 16 6 else number (s.extract 1 s.size) 10 7
def oneR (s : ByteArray) (L : List Pair) : ByteArray × Bool :=
  if 1 < s.size ∧ byteAt s 0 = 35 then (texts.stx (numOf s), decide (0 ≤ numOf s) && spans.inB spans.signL (numOf s)) else
  if (known s).toList.isEmpty = false then (known s, true) else look L s
theorem one_num {s : ByteArray} {L : List Pair} (h : 1 < s.size ∧ byteAt s 0 = 35) : oneR s L = (texts.stx (numOf s), decide (0 ≤ numOf s) && spans.inB spans.signL (numOf s)) := by unfold oneR; rw [if_pos h]
theorem one_known {s : ByteArray} {L : List Pair} (h : ¬ (1 < s.size ∧ byteAt s 0 = 35)) (h1 : (known s).toList.isEmpty = false) : oneR s L = (known s, true) := by unfold oneR; rw [if_neg h, if_pos h1]
theorem one_look {s : ByteArray} {L : List Pair} (h : ¬ (1 < s.size ∧ byteAt s 0 = 35)) (h1 : (known s).toList.isEmpty = true) : oneR s L = look L s := by unfold oneR; rw [if_neg h, if_neg (by rw [h1]; decide)]

/-! ### What becomes of a text -/
def semiF (s : ByteArray) : Nat → Nat → Nat
  | 0, k => k
  | f + 1, k => if k < s.size ∧ byteAt s k ≠ 59 then semiF s f (k + 1) else k
def semi (s : ByteArray) (k : Nat) : Nat := semiF s s.size k
def expF (s : ByteArray) (L : List Pair) : Nat → Nat → ByteArray → Option ByteArray
  | 0, _, out => some out
  | f + 1, p, out =>
    if p < s.size then
      if byteAt s p ≠ 38 then expF s L f (p + 1) (out ++ s.extract p (p + 1)) else
      if semi s p = s.size then none else
      if (oneR (s.extract (p + 1) (semi s p)) L).2 = true then expF s L f (semi s p + 1) (out ++ (oneR (s.extract (p + 1) (semi s p)) L).1) else none
    else some out
def expE (s : ByteArray) (L : List Pair) : Option ByteArray := expF s L s.size 0 ⟨#[]⟩
def textB (s : ByteArray) : Bool := decide (s.size ≤ 600) && scans.signs s
def expandR (s : ByteArray) (L : List Pair) : ByteArray × Bool :=
  if (scans.signs s && decide (s.size ≤ 1500)) = true ∧ entsB L = true then
    match expE s L with
    | none => (⟨#[]⟩, false)
    | some out => if textB out = true then (out, true) else (⟨#[]⟩, false)
  else (⟨#[]⟩, false)
theorem semiF_stop (s : ByteArray) (f k : Nat) (h : ¬ (k < s.size ∧ byteAt s k ≠ 59)) : semiF s f k = k := by
  cases f with
  | zero => rfl
  | succ f => rw [semiF, if_neg h]
theorem semiF_go (s : ByteArray) (f k : Nat) (hf : s.size ≤ k + f) (h : k < s.size ∧ byteAt s k ≠ 59) : ∃ g, semiF s f k = semiF s g (k + 1) ∧ s.size ≤ k + 1 + g := by
  cases f with
  | zero => omega
  | succ f => exact ⟨f, by rw [semiF, if_pos h], by omega⟩
theorem semiF_le (s : ByteArray) : ∀ f k, k ≤ s.size → k ≤ semiF s f k ∧ semiF s f k ≤ s.size
  | 0, k, h => ⟨Nat.le_refl _, h⟩
  | f + 1, k, h => by
    rw [semiF]
    split
    · rename_i hc
      have := semiF_le s f (k + 1) hc.1
      omega
    · exact ⟨Nat.le_refl _, h⟩
theorem expF_end (s : ByteArray) (L : List Pair) (f p : Nat) (out : ByteArray) (h : ¬ p < s.size) : expF s L f p out = some out := by
  cases f with
  | zero => rfl
  | succ f => rw [expF, if_neg h]
theorem expF_own (s : ByteArray) (L : List Pair) (f p : Nat) (out : ByteArray) (hf : s.size ≤ p + f) (h : p < s.size) (h1 : byteAt s p ≠ 38) : ∃ g, expF s L f p out = expF s L g (p + 1) (out ++ s.extract p (p + 1)) ∧ s.size ≤ p + 1 + g := by
  cases f with
  | zero => omega
  | succ f => exact ⟨f, by rw [expF, if_pos h, if_pos h1], by omega⟩
theorem expF_none (s : ByteArray) (L : List Pair) (f p : Nat) (out : ByteArray) (hf : s.size ≤ p + f) (h : p < s.size) (h1 : byteAt s p = 38) (h2 : semi s p = s.size) : expF s L f p out = none := by
  cases f with
  | zero => omega
  | succ f => rw [expF, if_pos h, if_neg (by omega), if_pos h2]
theorem expF_bad (s : ByteArray) (L : List Pair) (f p : Nat) (out : ByteArray) (hf : s.size ≤ p + f) (h : p < s.size) (h1 : byteAt s p = 38) (h2 : semi s p ≠ s.size) (h3 : (oneR (s.extract (p + 1) (semi s p)) L).2 = false) : expF s L f p out = none := by
  cases f with
  | zero => omega
  | succ f => rw [expF, if_pos h, if_neg (by omega), if_neg h2, if_neg (by rw [h3]; decide)]
theorem expF_go (s : ByteArray) (L : List Pair) (f p : Nat) (out : ByteArray) (hf : s.size ≤ p + f) (h : p < s.size) (h1 : byteAt s p = 38) (h2 : semi s p ≠ s.size) (h3 : (oneR (s.extract (p + 1) (semi s p)) L).2 = true) :
    ∃ g, expF s L f p out = expF s L g (semi s p + 1) (out ++ (oneR (s.extract (p + 1) (semi s p)) L).1) ∧ s.size ≤ semi s p + 1 + g := by
  cases f with
  | zero => omega
  | succ f =>
    have := semiF_le s s.size p (by omega)
    exact ⟨f, by rw [expF, if_pos h, if_neg (by omega), if_neg h2, if_pos h3], by unfold semi; omega⟩
theorem stx_size (n : Int) : (texts.stx n).size ≤ 4 := by
  unfold texts.stx
  split
  · simp only [Utf8.encode]
    repeat' split
    all_goals first | exact (by decide : 1 ≤ 4) | exact (by decide : 2 ≤ 4) | exact (by decide : 3 ≤ 4) | exact (by decide : 4 ≤ 4)
  · exact Nat.zero_le _
theorem one_size (s : ByteArray) (L : List Pair) (hL : ∀ i, i < L.length → (at0 L i).2.size ≤ 1048576) : (oneR s L).1.size ≤ 1048576 := by
  unfold oneR
  split
  · exact Nat.le_trans (stx_size _) (by decide)
  · split
    · exact Nat.le_trans (known_size s) (by decide)
    · unfold look
      split
      · rename_i i hi
        exact hL i (List.mem_range.1 (List.mem_of_find?_eq_some hi))
      · exact Nat.zero_le _
end Go.Proofs.YtekbpekfomblbaaGreatDoor.refs
