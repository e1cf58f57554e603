/-
  Names: what is plain about a name and its parts (nothing of a program).
-/
import Derived.Test.YtbhlcihaagpamaaDoorNames
namespace Go.Proofs.YtbhlcihaagpamaaDoor.names
open Go.RowKit
set_option linter.unusedVariables false
theorem ext_list {a b : ByteArray} (h : a.data.toList = b.data.toList) : a = b := ByteArray.ext (Array.toList_inj.mp h)
theorem beq_refl (a : ByteArray) : (a.toList == a.toList) = true := by simp
theorem beq_of {a b : ByteArray} (h : (a.toList == b.toList) = true) : a = b := by
  rw [beq_iff_eq, ByteArray.toList_eq, ByteArray.toList_eq] at h
  exact ext_list h
theorem nil_of {a : ByteArray} (h : a.size = 0) : a = ⟨#[]⟩ := ByteArray.ext (Array.eq_empty_of_size_eq_zero h)
theorem cut_join (s : ByteArray) (i : Nat) (hi : i < s.size) (h : (s.get! i).toNat = 58) : s.extract 0 i ++ ⟨#[58]⟩ ++ s.extract (i + 1) s.size = s := by
  apply ext_list
  obtain ⟨⟨l⟩⟩ := s
  have hl : i < l.length := hi
  have hg : l[i] = 58 := by
    have e : ByteArray.get! ⟨⟨l⟩⟩ i = l[i] := by
      show (Array.mk l)[i]! = _
      exact getElem!_pos (Array.mk l) i hl
    rw [e] at h
    exact UInt8.toNat_inj.mp h
  have hz : (ByteArray.mk ⟨l⟩).size = l.length := rfl
  rw [hz]
  simp only [ByteArray.data_append, ByteArray.data_extract, Array.toList_append, Array.toList_extract, List.extract_eq_take_drop, List.drop_zero, Nat.sub_zero]
  rw [List.take_of_length_le (l := l.drop (i + 1)) (by rw [List.length_drop]; exact Nat.le_refl _)]
  show l.take i ++ [58] ++ l.drop (i + 1) = l
  rw [List.append_assoc, ← hg, List.singleton_append, ← List.drop_eq_getElem_cons hl, List.take_append_drop]
theorem splitI_byte {s : ByteArray} {i : Nat} (h : splitI s = some i) : i < s.size ∧ (s.get! i).toNat = 58 := by
  unfold splitI at h
  refine ⟨List.mem_range.1 (List.mem_of_find?_eq_some h), ?_⟩
  simpa using List.find?_some h
theorem plain_pos {s : ByteArray} (h : plainB s = true) : ¬ s.size = 0 := by
  intro h0
  rw [plain_size (by omega)] at h
  cases h
theorem nil_split : splitT ⟨#[]⟩ = (⟨#[]⟩, ⟨#[]⟩, false) := split_none (plain_size (by decide)) rfl
theorem split_cases (s : ByteArray) :
    (splitT s = (⟨#[]⟩, s, true) ∧ plainB s = true ∧ joinR ⟨#[]⟩ s = s) ∨
    (∃ p l, splitT s = (p, l, true) ∧ plainB s = false ∧ plainB p = true ∧ plainB l = true ∧ p.toList.isEmpty = false ∧ p.size ≤ s.size ∧ l.size ≤ s.size ∧ joinR p l = s) ∨
    (splitT s = (⟨#[]⟩, ⟨#[]⟩, false) ∧ plainB s = false) := by
  cases hp : plainB s
  · right
    cases hI : splitI s with
    | none => exact .inr ⟨split_none hp hI, rfl⟩
    | some i =>
      obtain ⟨hi, h58⟩ := splitI_byte hI
      by_cases h : plainB (s.extract 0 i) = true ∧ plainB (s.extract (i + 1) s.size) = true
      · left
        have hT := split_yes hp hI h.1 h.2
        have hne := plain_pos h.1
        refine ⟨_, _, hT, rfl, h.1, h.2, isEmpty_no hne, by rw [ByteArray.size_extract]; omega, by rw [ByteArray.size_extract]; omega, join_yes ?_ hT rfl (beq_refl _) (beq_refl _)⟩
        unfold joined
        rw [if_neg hne, cut_join s i hi h58]
      · exact .inr ⟨split_bad hp hI h, rfl⟩
  · left
    have hT := split_plain hp
    exact ⟨hT, rfl, join_yes (by unfold joined; exact if_pos rfl) hT rfl (beq_refl _) (beq_refl _)⟩
theorem join_cases (a b : ByteArray) : joinR a b = ⟨#[]⟩ ∨ ∃ j, joinR a b = j ∧ splitT j = (a, b, true) ∧ j.toList.isEmpty = false ∧ j.size ≤ a.size + b.size + 1 := by
  obtain ⟨j, hj⟩ : ∃ j, joined a b = j := ⟨_, rfl⟩
  obtain ⟨p, l, ok, hT⟩ : ∃ p l ok, splitT j = (p, l, ok) := ⟨_, _, _, rfl⟩
  cases ok
  · exact .inl (join_no hj hT (.inl rfl))
  · cases e1 : (p.toList == a.toList)
    · exact .inl (join_no hj hT (.inr (.inl e1)))
    · cases e2 : (l.toList == b.toList)
      · exact .inl (join_no hj hT (.inr (.inr e2)))
      · right
        obtain rfl := beq_of e1
        obtain rfl := beq_of e2
        refine ⟨j, join_yes hj hT rfl e1 e2, hT, isEmpty_no (fun h => ?_), ?_⟩
        · rw [nil_of h, nil_split] at hT
          cases hT
        · rw [← hj]
          unfold joined
          split
          · omega
          · rw [ByteArray.size_append, ByteArray.size_append]
            show p.size + 1 + l.size ≤ _
            omega
end Go.Proofs.YtbhlcihaagpamaaDoor.names
