/-
  What becomes of a text, plain: from one mark to the next.
-/
import Derived.Test.YtekbpekfomblbaaGreatDoorRefP
namespace Go.Proofs.YtekbpekfomblbaaGreatDoor.refs
open Go.RowKit
open escs (byteAt)
open pairs (Pair at0)
set_option linter.unusedVariables false
/-- The first place, from p on, of a byte. -/
structure First (s : ByteArray) (c : Int) (p i : Nat) : Prop where
  from_ : p ≤ i
  lt : i < s.size
  hit : byteAt s i = c
  no : ∀ j, p ≤ j → j < i → byteAt s j ≠ c
def NoneAt (s : ByteArray) (c : Int) (p : Nat) : Prop := ∀ j, p ≤ j → j < s.size → byteAt s j ≠ c
theorem first_or (s : ByteArray) (c : Int) : ∀ (f p : Nat), p + f = s.size → (∃ i, First s c p i) ∨ NoneAt s c p
  | 0, p, h => .inr fun j h1 h2 => by omega
  | f + 1, p, h => by
    by_cases e : byteAt s p = c
    · exact .inl ⟨p, Nat.le_refl _, by omega, e, fun j h1 h2 => by omega⟩
    · rcases first_or s c f (p + 1) (by omega) with ⟨i, hi⟩ | hn
      · refine .inl ⟨i, by have := hi.from_; omega, hi.lt, hi.hit, fun j h1 h2 => ?_⟩
        by_cases ej : j = p
        · rw [ej]; exact e
        · exact hi.no j (by omega) h2
      · refine .inr fun j h1 h2 => ?_
        by_cases ej : j = p
        · rw [ej]; exact e
        · exact hn j (by omega) h2
theorem first_any (s : ByteArray) (c : Int) (p : Nat) (h : p ≤ s.size) : (∃ i, First s c p i) ∨ NoneAt s c p := first_or s c (s.size - p) p (by omega)
theorem byte_extract (s : ByteArray) (p j : Nat) (h : p + j < s.size) : byteAt (s.extract p s.size) j = byteAt s (p + j) := by
  unfold escs.byteAt
  rw [escs.get_of _ _ (by rw [ByteArray.size_extract]; omega), escs.get_of _ _ h]
  rw [ByteArray.getElem_extract]
theorem First.tail {s : ByteArray} {c : Int} {p i : Nat} (h : First s c p i) : First (s.extract p s.size) c 0 (i - p) := by
  have h1 := h.from_
  have h2 := h.lt
  refine ⟨Nat.zero_le _, by rw [ByteArray.size_extract]; omega, ?_, fun j _ hj => ?_⟩
  · rw [byte_extract s p (i - p) (by omega), show p + (i - p) = i by omega]; exact h.hit
  · rw [byte_extract s p j (by omega)]; exact h.no _ (by omega) (by omega)
theorem NoneAt.tail {s : ByteArray} {c : Int} {p : Nat} (hp : p ≤ s.size) (h : NoneAt s c p) : NoneAt (s.extract p s.size) c 0 := fun j _ hj => by
  rw [ByteArray.size_extract] at hj
  rw [byte_extract s p j (by omega)]
  exact h _ (by omega) (by omega)
theorem extract_tail (s : ByteArray) (p i : Nat) (h : p ≤ i) (hi : i ≤ s.size) : (s.extract p s.size).extract 0 (i - p) = s.extract p i := by
  rw [ByteArray.extract_extract]
  congr 1
  omega
theorem extract_rest (s : ByteArray) (p i : Nat) (h : p ≤ i) (hi : i < s.size) : (s.extract p s.size).extract (i - p + 1) (s.extract p s.size).size = s.extract (i + 1) s.size := by
  rw [ByteArray.extract_extract, ByteArray.size_extract]
  congr 1 <;> omega
theorem extract_step (s : ByteArray) (p i : Nat) (h : p < i) (hi : i ≤ s.size) : s.extract p (p + 1) ++ s.extract (p + 1) i = s.extract p i := by
  rw [ByteArray.extract_append_extract]
  congr 1 <;> omega
theorem append_extract_none (out s : ByteArray) (p : Nat) : out ++ s.extract p p = out := by
  have h : s.extract p p = ByteArray.empty := by
    apply ByteArray.ext
    apply Array.eq_empty_of_size_eq_zero
    show (s.extract p p).size = 0
    rw [ByteArray.size_extract]
    omega
  rw [h, ByteArray.append_empty]
theorem exp_from (s : ByteArray) (L : List Pair) : ∀ (d f p : Nat) (out : ByteArray), p + d ≤ s.size → s.size ≤ p + f → (∀ j, p ≤ j → j < p + d → byteAt s j ≠ 38) →
    ∃ g, expF s L f p out = expF s L g (p + d) (out ++ s.extract p (p + d)) ∧ s.size ≤ p + d + g
  | 0, f, p, out, h1, h2, h3 => ⟨f, by rw [Nat.add_zero, append_extract_none], by omega⟩
  | d + 1, f, p, out, h1, h2, h3 => by
    obtain ⟨g, e1, e2⟩ := expF_own s L f p out h2 (by omega) (h3 p (Nat.le_refl _) (by omega))
    obtain ⟨g', e3, e4⟩ := exp_from s L d g (p + 1) (out ++ s.extract p (p + 1)) (by omega) e2 (fun j a b => h3 j (by omega) (by omega))
    refine ⟨g', ?_, by omega⟩
    rw [e1, e3, ByteArray.append_assoc, extract_step s p (p + 1 + d) (by omega) (by omega), show p + 1 + d = p + (d + 1) by omega]
theorem exp_first {s : ByteArray} {L : List Pair} {f p i : Nat} {out : ByteArray} (hf : s.size ≤ p + f) (h : First s 38 p i) : ∃ g, expF s L f p out = expF s L g i (out ++ s.extract p i) ∧ s.size ≤ i + g := by
  have h1 := h.from_
  have h2 := h.lt
  obtain ⟨g, e1, e2⟩ := exp_from s L (i - p) f p out (by omega) hf (fun j a b => h.no j a (by omega))
  rw [show p + (i - p) = i by omega] at e1 e2
  exact ⟨g, e1, e2⟩
theorem exp_last {s : ByteArray} {L : List Pair} {f p : Nat} {out : ByteArray} (hp : p ≤ s.size) (hf : s.size ≤ p + f) (h : NoneAt s 38 p) : expF s L f p out = some (out ++ s.extract p s.size) := by
  obtain ⟨g, e1, e2⟩ := exp_from s L (s.size - p) f p out (by omega) hf (fun j a b => h j a (by omega))
  rw [show p + (s.size - p) = s.size by omega] at e1
  rw [e1, expF_end _ _ _ _ _ (by omega)]
theorem semiF_run (s : ByteArray) : ∀ (d f k : Nat), k + d ≤ s.size → s.size ≤ k + f → (∀ j, k ≤ j → j < k + d → byteAt s j ≠ 59) → ∃ g, semiF s f k = semiF s g (k + d) ∧ s.size ≤ k + d + g
  | 0, f, k, h1, h2, h3 => ⟨f, rfl, by omega⟩
  | d + 1, f, k, h1, h2, h3 => by
    obtain ⟨g, e1, e2⟩ := semiF_go s f k h2 ⟨by omega, h3 k (Nat.le_refl _) (by omega)⟩
    obtain ⟨g', e3, e4⟩ := semiF_run s d g (k + 1) (by omega) e2 (fun j a b => h3 j (by omega) (by omega))
    exact ⟨g', by rw [e1, e3, show k + 1 + d = k + (d + 1) by omega], by omega⟩
theorem semi_first {s : ByteArray} {p i : Nat} (hp : byteAt s p ≠ 59) (h : First s 59 (p + 1) i) : semi s p = i := by
  have h1 := h.from_
  have h2 := h.lt
  obtain ⟨g, e1, e2⟩ := semiF_run s (i - p) s.size p (by omega) (by omega) (fun j a b => by
    by_cases e : j = p
    · rw [e]; exact hp
    · exact h.no j (by omega) (by omega))
  rw [show p + (i - p) = i by omega] at e1
  unfold semi
  rw [e1, semiF_stop _ _ _ (fun e => e.2 h.hit)]
theorem semi_none {s : ByteArray} {p : Nat} (hp : byteAt s p ≠ 59) (hl : p < s.size) (h : NoneAt s 59 (p + 1)) : semi s p = s.size := by
  obtain ⟨g, e1, e2⟩ := semiF_run s (s.size - p) s.size p (by omega) (by omega) (fun j a b => by
    by_cases e : j = p
    · rw [e]; exact hp
    · exact h j (by omega) (by omega))
  rw [show p + (s.size - p) = s.size by omega] at e1
  unfold semi
  rw [e1, semiF_stop _ _ _ (fun e => by omega)]
/-! ### One round: what is still to come of a text from p on, with what there is already -/
def To (s : ByteArray) (L : List Pair) (p : Nat) (out : ByteArray) : Prop := ∃ f, expE s L = expF s L f p out ∧ s.size ≤ p + f
theorem to_start (s : ByteArray) (L : List Pair) : To s L 0 ⟨#[]⟩ := ⟨s.size, rfl, by omega⟩
theorem To.last {s : ByteArray} {L : List Pair} {p : Nat} {out : ByteArray} (h : To s L p out) (hp : p ≤ s.size) (hn : NoneAt s 38 p) : expE s L = some (out ++ s.extract p s.size) := by
  obtain ⟨f, e, hf⟩ := h
  rw [e, exp_last hp hf hn]
theorem To.open_ {s : ByteArray} {L : List Pair} {p i : Nat} {out : ByteArray} (h : To s L p out) (hi : First s 38 p i) (hn : NoneAt s 59 (i + 1)) : expE s L = none := by
  obtain ⟨f, e, hf⟩ := h
  obtain ⟨g, e1, e2⟩ := exp_first (out := out) (L := L) hf hi
  rw [e, e1, expF_none _ _ _ _ _ e2 hi.lt hi.hit (semi_none (by rw [hi.hit]; decide) hi.lt hn)]
theorem To.bad {s : ByteArray} {L : List Pair} {p i k : Nat} {out : ByteArray} (h : To s L p out) (hi : First s 38 p i) (hk : First s 59 (i + 1) k) (hx : (oneR (s.extract (i + 1) k) L).2 = false) : expE s L = none := by
  obtain ⟨f, e, hf⟩ := h
  obtain ⟨g, e1, e2⟩ := exp_first (out := out) (L := L) hf hi
  have hs := semi_first (by rw [hi.hit]; decide) hk
  have hl := hk.lt
  rw [e, e1, expF_bad _ _ _ _ _ e2 hi.lt hi.hit (by rw [hs]; omega) (by rw [hs]; exact hx)]
theorem To.go {s : ByteArray} {L : List Pair} {p i k : Nat} {out x : ByteArray} (h : To s L p out) (hi : First s 38 p i) (hk : First s 59 (i + 1) k) (hx : oneR (s.extract (i + 1) k) L = (x, true)) : To s L (k + 1) (out ++ s.extract p i ++ x) := by
  obtain ⟨f, e, hf⟩ := h
  obtain ⟨g, e1, e2⟩ := exp_first (out := out) (L := L) hf hi
  have hs := semi_first (by rw [hi.hit]; decide) hk
  have hl := hk.lt
  obtain ⟨g', e3, e4⟩ := expF_go s L g i (out ++ s.extract p i) e2 hi.lt hi.hit (by rw [hs]; omega) (by rw [hs, hx])
  rw [hs, hx] at e3
  rw [hs] at e4
  exact ⟨g', by rw [e, e1, e3], e4⟩
end Go.Proofs.YtekbpekfomblbaaGreatDoor.refs
