/-
  What the library's ReplaceAll gives, plain: byte by byte; and that two of them make line ends one.
-/
import Derived.Test.YtdojkaboejndiaaDoorEscP
import Derived.Lib.Replace
namespace Go.Proofs.YtdojkaboejndiaaDoor.repl
open Go.Lib
open escs (byteAt normAt normT normS)
set_option linter.unusedVariables false

theorem all_none {s old new : List UInt8} (h : index s old = -1) : replaceAll s old new = s := by
  unfold replaceAll replace
  split
  · rfl
  · unfold replaceNum
    rw [count_miss h, if_pos (Or.inl (by decide)), replaceK]
theorem all_num (s old : List UInt8) : replaceNum s old (-1) = count s old := by
  unfold replaceNum
  rw [if_pos (Or.inl (by decide))]
theorem all_hit {s old new : List UInt8} {i : Nat} (ho : old ≠ []) (hn : (old == new) = false) (h : index s old = i) : replaceAll s old new = s.take i ++ new ++ replaceAll (s.drop (i + old.length)) old new := by
  unfold replaceAll replace
  rw [if_neg (by rw [hn]; decide), if_neg (by rw [hn]; decide), all_num, all_num, count_hit ho h, Nat.add_comm, replaceK_hit old new _ s i h]
theorem all_head {s old new : List UInt8} (ho : old ≠ []) (hn : (old == new) = false) (h : old.isPrefixOf s = true) (hs : s ≠ []) : replaceAll s old new = new ++ replaceAll (s.drop old.length) old new := by
  have hi : index s old = (0 : Nat) := by
    cases s with
    | nil => exact absurd rfl hs
    | cons b r => rw [index, if_pos h]; rfl
  rw [all_hit ho hn hi, List.take_zero, List.nil_append, Nat.zero_add]
theorem all_skip {b : UInt8} {r old new : List UInt8} (ho : old ≠ []) (hn : (old == new) = false) (h : old.isPrefixOf (b :: r) = false) : replaceAll (b :: r) old new = b :: replaceAll r old new := by
  have hge := index_ge r old
  by_cases hm : index r old = -1
  · have h1 : index (b :: r) old = -1 := by rw [index, if_neg (by rw [h]; decide), if_pos (by rw [hm]; rfl)]
    rw [all_none h1, all_none hm]
  · obtain ⟨i, hi⟩ : ∃ i : Nat, index r old = i := ⟨(index r old).toNat, by omega⟩
    have h1 : index (b :: r) old = ((i + 1 : Nat) : Int) := by
      rw [index, if_neg (by rw [h]; decide), if_neg (by rw [beq_iff_eq]; exact hm), hi]
      rfl
    rw [all_hit ho hn h1, all_hit ho hn hi, List.take_succ_cons, show i + 1 + old.length = (i + old.length) + 1 by omega, List.drop_succ_cons]
    rfl

/-- A byte 13 and a byte 10 behind it are one byte 10. -/
def crlf : List UInt8 → List UInt8
  | [] => []
  | [b] => [b]
  | b :: c :: q => if b = 13 ∧ c = 10 then 10 :: crlf q else b :: crlf (c :: q)
theorem crlf_one (b : UInt8) : crlf [b] = [b] := by simp [crlf]
theorem crlf_both (q : List UInt8) : crlf (13 :: 10 :: q) = 10 :: crlf q := by simp [crlf]
theorem crlf_own {b : UInt8} {r : List UInt8} (h : b ≠ 13) : crlf (b :: r) = b :: crlf r := by
  cases r with
  | nil => simp [crlf]
  | cons c q => rw [crlf, if_neg (fun e => h e.1)]
theorem crlf_not {c : UInt8} {q : List UInt8} (h : c ≠ 10) : crlf (13 :: c :: q) = 13 :: crlf (c :: q) := by rw [crlf, if_neg (fun e => h e.2)]
theorem crlf_all : ∀ (n : Nat) (l : List UInt8), l.length ≤ n → replaceAll l [13, 10] [10] = crlf l
  | _, [], _ => by rw [all_none (by decide)]; simp [crlf]
  | 0, b :: r, h => by simp at h
  | n + 1, [b], h => by
    rw [all_skip (by decide) (by decide) (by simp [List.isPrefixOf])]
    rw [all_none (s := []) (by decide), crlf_one]
  | n + 1, b :: c :: q, h => by
    by_cases hb : b = 13
    · subst hb
      by_cases hc : c = 10
      · subst hc
        rw [all_head (by decide) (by decide) (by simp [List.isPrefixOf]) (by simp)]
        show [10] ++ replaceAll q [13, 10] [10] = _
        rw [crlf_all n q (by simp at h; omega), crlf_both]
        rfl
      · rw [all_skip (by decide) (by decide) (by simp [List.isPrefixOf]; exact fun e => hc e.symm), crlf_all n (c :: q) (by simpa using h), crlf_not hc]
    · rw [all_skip (by decide) (by decide) (by simp [List.isPrefixOf]; intro e; exact absurd e.symm hb), crlf_all n (c :: q) (by simpa using h), crlf_own hb]
def cr (l : List UInt8) : List UInt8 := l.map fun b => if b = 13 then 10 else b
theorem cr_all : ∀ l : List UInt8, replaceAll l [13] [10] = cr l
  | [] => by rw [all_none (by decide)]; rfl
  | b :: r => by
    by_cases hb : b = 13
    · subst hb
      rw [all_head (by decide) (by decide) (by simp [List.isPrefixOf]) (by simp)]
      show [10] ++ replaceAll r [13] [10] = _
      rw [cr_all r]
      simp [cr]
    · rw [all_skip (by decide) (by decide) (by simp [List.isPrefixOf]; exact fun e => hb e.symm), cr_all r]
      simp [cr, hb]
/-- Line ends, from a place on. -/
def normF (s : ByteArray) : Nat → Nat → List Int
  | 0, _ => []
  | f + 1, i => normAt s i ++ normF s f (i + 1)
theorem normT_F (s : ByteArray) : ∀ (f i : Nat), normT s (i + f) = normT s i ++ normF s f i
  | 0, i => by rw [normF, List.append_nil, Nat.add_zero]
  | f + 1, i => by rw [normF, show i + (f + 1) = (i + 1) + f by omega, normT_F s f (i + 1), normT, List.append_assoc]
theorem normS_F (s : ByteArray) : normS s = strOfNums (normF s s.size 0) := by
  unfold normS
  have := normT_F s s.size 0
  rw [Nat.zero_add] at this
  rw [this]
  rfl
theorem byte_drop (s : ByteArray) {i : Nat} {b : UInt8} {r : List UInt8} (h : s.data.toList.drop i = b :: r) : byteAt s i = (b.toNat : Int) ∧ i < s.size ∧ s.data.toList.drop (i + 1) = r := by
  have hl : i < s.data.toList.length := by
    by_cases hl : i < s.data.toList.length
    · exact hl
    · rw [List.drop_eq_nil_of_le (by omega)] at h; cases h
  rw [List.drop_eq_getElem_cons hl] at h
  have hs : i < s.size := by rw [Lib.size_eq]; exact hl
  refine ⟨?_, hs, (List.cons.inj h).2⟩
  unfold escs.byteAt
  rw [escs.get_of s i hs, ← (List.cons.inj h).1]
  obtain ⟨a⟩ := s
  rfl
theorem drop_nil {s : ByteArray} {i : Nat} (hi : i ≤ s.size) (h : s.data.toList.drop i = []) : i = s.size := by
  have := List.drop_eq_nil_iff.1 h
  rw [← Lib.size_eq] at this
  omega
def nums (l : List UInt8) : List Int := l.map fun b => (b.toNat : Int)
theorem ne13 {b : UInt8} (h : ¬ b = 13) : ((b.toNat : Int)) ≠ 13 := fun e => h (UInt8.toNat_inj.mp (by show b.toNat = 13; omega))
theorem ne10 {b : UInt8} (h : ¬ b = 10) : ((b.toNat : Int)) ≠ 10 := fun e => h (UInt8.toNat_inj.mp (by show b.toNat = 10; omega))
theorem normF_eq (s : ByteArray) : ∀ (f i : Nat), i + f = s.size → normF s f i = nums (cr (crlf (s.data.toList.drop i))) := by
  intro f
  induction f using Nat.strongRecOn with
  | _ f ih =>
    intro i hf
    cases hd : s.data.toList.drop i with
    | nil =>
      have := drop_nil (by omega) hd
      obtain rfl : f = 0 := by omega
      simp [crlf, cr, nums, normF]
    | cons b r =>
      obtain ⟨hb, hlt, hr⟩ := byte_drop s hd
      obtain ⟨g, rfl⟩ : ∃ g, f = g + 1 := ⟨f - 1, by omega⟩
      rw [normF]
      by_cases e13 : b = 13
      · subst e13
        cases r with
        | nil =>
          have := drop_nil (by omega) hr
          obtain rfl : g = 0 := by omega
          have : normAt s i = [10] := by unfold escs.normAt; rw [if_neg (by rw [hb]; decide), if_pos (.inl (by omega))]
          rw [this, crlf_one]
          simp [normF, cr, nums]
        | cons c q =>
          obtain ⟨hc, hlt1, hq⟩ := byte_drop s hr
          by_cases e10 : c = 10
          · subst e10
            obtain ⟨g', rfl⟩ : ∃ g', g = g' + 1 := ⟨g - 1, by omega⟩
            have h0 : normAt s i = [] := by unfold escs.normAt; rw [if_neg (by rw [hb]; decide), if_neg (by rw [hc]; rintro (h | h); omega; exact h rfl)]
            have h1 : normAt s (i + 1) = [10] := by unfold escs.normAt; rw [if_pos (by rw [hc]; decide), hc]; rfl
            rw [h0, normF, h1, ih g' (by omega) (i + 1 + 1) (by omega), hq, crlf_both]
            simp [cr, nums]
          · have h0 : normAt s i = [10] := by unfold escs.normAt; rw [if_neg (by rw [hb]; decide), if_pos (.inr (by rw [hc]; exact ne10 e10))]
            rw [h0, ih g (by omega) (i + 1) (by omega), hr, crlf_not e10]
            simp [cr, nums]
      · have h0 : normAt s i = [(b.toNat : Int)] := by unfold escs.normAt; rw [hb, if_pos (ne13 e13)]
        rw [h0, ih g (by omega) (i + 1) (by omega), hr, crlf_own e13]
        simp [e13, cr, nums]
theorem str_nums (l : List UInt8) : strOfNums (nums l) = ⟨l.toArray⟩ := by
  unfold strOfNums nums
  have : (l.map fun b => (b.toNat : Int)).map (fun n => UInt8.ofNat n.toNat) = l := by
    rw [List.map_map]
    conv => rhs; rw [← List.map_id l]
    refine List.map_congr_left fun b _ => ?_
    simp
  rw [this]
theorem norm_eq (s : ByteArray) : normS s = ⟨(cr (crlf s.data.toList)).toArray⟩ := by
  rw [normS_F, normF_eq s s.size 0 (by omega), str_nums, List.drop_zero]
end Go.Proofs.YtdojkaboejndiaaDoor.repl
