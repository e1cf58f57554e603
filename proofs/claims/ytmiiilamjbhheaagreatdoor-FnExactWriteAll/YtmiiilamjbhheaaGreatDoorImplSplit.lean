/-
  Names: what the program's SplitName, JoinName and NameAt answer: the same as the specification's.
-/
import Derived.Test.YtmiiilamjbhheaaGreatDoorImplNames
import Derived.Laws.Externs
namespace Go.Proofs.YtmiiilamjbhheaaGreatDoor.names
open Go.ChangeShapes Go.WideShapes Go.ChangeAt Go.RowKit
set_option linter.unusedVariables false
/-! ### Where the first colon stands -/
theorem find_same {α : Type} {p q : α → Bool} : ∀ {l : List α}, (∀ x ∈ l, p x = q x) → l.find? p = l.find? q := Lib.find_congr
theorem splitI_lt {s : ByteArray} {i : Nat} (h : splitI s = some i) : i < s.size := by
  unfold splitI at h
  exact List.mem_range.1 (List.mem_of_find?_eq_some h)
theorem byte58 (b : UInt8) : (b == (58 : UInt8)) = (b.toNat == 58) := by
  rw [Bool.eq_iff_iff]
  simp only [beq_iff_eq]
  exact ⟨fun h => by rw [h]; rfl, fun h => UInt8.toNat_inj.mp h⟩
theorem first_split (s : ByteArray) : firstIdx s 58 = (match splitI s with | some i => (i : Int) | none => -1) := by
  unfold firstIdx splitI
  rw [find_same (q := fun i => (s.get! i).toNat == 58) (fun i hi => ?_)]
  · cases (List.range s.size).find? (fun i => (s.get! i).toNat == 58) <;> rfl
  · rw [byte58]
    have hlt := List.mem_range.1 hi
    rw [getElem!_pos s i hlt]
    obtain ⟨a⟩ := s
    show (a[i].toNat == 58) = _
    have : ByteArray.get! ⟨a⟩ i = a[i] := by
      show a[i]! = _
      exact getElem!_pos a i hlt
    rw [this]
set_option maxHeartbeats 1000000 in
set_option maxRecDepth 100000 in
theorem index_any (s : ByteArray) (w : World) : Calls Tryz.prog 126 #[.string s, .int .u8 58] w fun e w' => e = .returned (.int .i64 (firstIdx s 58)) ∧ w' = w := by
  go_enter Tryz.func126, Tryz.ntmps126
  go_wp2
  rw [run_callFunc_extern Tryz.func133 (by kernel_rfl) (by kernel_rfl) (by kernel_rfl) (e := Extern.BytealgIndexByte.indexByte) (by kernel_rfl), run_indexByte_string]
  simp only [Result.andThen]
  rw [Oper.upon_value]
  go_wp2
  go_ret
  exact ⟨rfl, rfl⟩
theorem ret_int {a b : Int} (h : a = b) : Ending.returned (.int .i64 a) = .returned (.int .i64 b) := by rw [h]
set_option maxHeartbeats 1000000 in
theorem index_all (s : ByteArray) (i : Int) (hi : Hid (firstIdx s 58 = i)) (w : World) : Calls Tryz.prog 113 #[.string s, .int .u8 58] w fun e w' => e = .returned (.int .i64 i) ∧ w' = w := by
  go_enter Tryz.func113, Tryz.ntmps113
  go_wp2_with (go_at_call 126; refine (index_any _ _).mono ?_; rintro e w1 ⟨rfl, rfl⟩)
  go_ret
  exact ⟨ret_int hi.out, rfl⟩
def cutT (s : ByteArray) : ByteArray × ByteArray := match splitI s with | none => (⟨#[]⟩, ⟨#[]⟩) | some i => (s.extract 0 i, s.extract (i + 1) s.size)
theorem cut_none {s : ByteArray} (h : splitI s = none) : cutT s = (⟨#[]⟩, ⟨#[]⟩) := by unfold cutT; rw [h]
theorem cut_some {s : ByteArray} {i : Nat} (h : splitI s = some i) : cutT s = (s.extract 0 i, s.extract (i + 1) s.size) := by unfold cutT; rw [h]
/-! ### The closure: it fills both answers -/
set_option maxRecDepth 100000 in
set_option maxHeartbeats 2000000 in
theorem fill_any (s : ByteArray) (i : Nat) (w : World) (hs : s.size ≤ maxLen) (hi : i < s.size) : Calls Tryz.prog 112 #[.int .i64 i, .pointer (some ⟨w.heap.size, 0, none⟩), .pointer (some ⟨w.heap.size + 1, 0, none⟩), .pointer (some ⟨w.heap.size + 1 + 1, 0, none⟩)] (((w.alloc (.cells #[.string s] 9)).alloc (.cells #[.string ⟨#[]⟩] 9)).alloc (.cells #[.string ⟨#[]⟩] 9)) fun e w' => e = .returned (.tuple #[]) ∧
    w'.cell? ⟨w.heap.size + 1, 0, none⟩ = some (.string (s.extract 0 i)) ∧ w'.cell? ⟨w.heap.size + 1 + 1, 0, none⟩ = some (.string (s.extract (i + 1) s.size)) ∧ Below w.heap.size w w' := by
  unfold maxLen at hs
  have hl1 : (i : Int) ≤ s.size := by omega
  have hl2 : (i : Int) + 1 ≤ s.size := by omega
  have hwr : IntKind.i64.wrap ((i : Int) + 1) = (i : Int) + 1 := by rw [IntKind.wrap_i64]; omega
  have hto : ((i : Int) + 1).toNat = i + 1 := by omega
  go_enter Tryz.func112, Tryz.ntmps112
  go_region
  go_wp2
  go_end0
  exact ⟨rfl, by simp [go_sem], by simp [go_sem], ((((Below.refl _ _).alloc (Nat.le_refl _) _).alloc (by simp) _).alloc (by simp; omega) _).drew⟩
set_option maxRecDepth 100000 in
set_option maxHeartbeats 2000000 in
theorem impl_cut (s : ByteArray) (w : World) (hs : s.size ≤ maxLen) : Calls Tryz.prog 94 #[.string s] w fun e w' => e = .returned (.tuple #[.string (cutT s).1, .string (cutT s).2]) ∧ Below w.heap.size w w' := by
  have HS : Hid (s.size ≤ maxLen) := hs
  unfold maxLen at hs
  have hmf : ∀ (fn : Fn) (first cap : Array Value) (w : World), (Instr.makeFunc fn first cap).run Tryz.prog w = .ok (.func fn first cap) w := fun _ _ _ _ => rfl
  cases hI : splitI s with
  | none =>
    have hx := index_all s (-1) (by show _ = _; rw [first_split, hI])
    rw [cut_none hI]
    have HX : Hid (∀ w, _) := hx
    clear hx hI
    go_enter Tryz.func94, Tryz.ntmps94
    go_wp2_with (go_at_call 113; refine (HX.out _).mono ?_; rintro e w1 ⟨rfl, rfl⟩)
    refine bodyPost_ret (by simp [results, Tryz.results94, go_sem]; try rfl) rfl ?_
    exact ⟨rfl, (((Below.refl _ _).alloc (Nat.le_refl _) _).alloc (by simp) _).alloc (by simp; omega) _⟩
  | some i =>
    have hlt := splitI_lt hI
    have hx := index_all s i (by show _ = _; rw [first_split, hI])
    rw [cut_some hI]
    have HX : Hid (∀ w, _) := hx
    have hl1 : (i : Int) ≤ s.size := by omega
    have hl2 : (i : Int) + 1 ≤ s.size := by omega
    clear hx hI
    go_enter Tryz.func94, Tryz.ntmps94
    go_wp2_with (go_at_call 113; refine (HX.out _).mono ?_; rintro e w1 ⟨rfl, rfl⟩)
    refine (fill_any s i w HS.out hlt).mono ?_
    rintro e w2 ⟨rfl, hc1, hc2, hb2⟩
    go_wp2
    refine bodyPost_ret (by simp [results, Tryz.results94, go_sem, hc1, hc2]; try rfl) rfl ?_
    exact ⟨rfl, hb2⟩

/-! ### A name's parts -/
theorem empty_plain : plainB ⟨#[]⟩ = false := by decide
theorem impl_plainH (s : ByteArray) (hs : s.size ≤ maxLen) (w : World) (hT : Tabs w) : Calls Tryz.prog 91 #[.string s] w fun e w' => e = .returned (.bool (plainB s)) ∧ Below w.heap.size w w' := impl_plain s w hs hT
set_option maxRecDepth 100000 in
set_option maxHeartbeats 2000000 in
theorem impl_split (s : ByteArray) (w : World) (hs : s.size ≤ maxLen) (hT : Hid (Tabs w)) : Calls Tryz.prog 76 #[.string s] w fun e w' => e = .returned (t3 (splitT s)) ∧ Below w.heap.size w w' := by
  have hP := impl_plainH s hs
  cases hp : plainB s
  · rw [hp] at hP
    have HP : Hid (∀ w, _) := hP
    have hC := fun w => impl_cut s w hs
    cases hI : splitI s with
    | none =>
      have HF : Hid (splitT s = (⟨#[]⟩, ⟨#[]⟩, false)) := split_none hp hI
      rw [cut_none hI] at hC
      have HC : Hid (∀ w, _) := hC
      have hE := impl_plainH ⟨#[]⟩ (by decide)
      rw [empty_plain] at hE
      have HE : Hid (∀ w, _) := hE
      clear hC hI hP hp hE
      go_enter Tryz.func76, Tryz.ntmps76
      go_wp2_with fail
      refine (HP.out _ hT.out).mono ?_
      rintro e w1 ⟨rfl, hb1⟩
      have HB1 : Hid _ := hb1
      clear hb1
      go_wp2_with fail
      refine (HC.out _).mono ?_
      rintro e w2 ⟨rfl, hb2⟩
      have HB2 : Hid _ := HB1.out.trans (hb2.mono HB1.out.size)
      clear hb2 HB1
      go_wp2_with fail
      refine (HE.out _ (hT.out.below HB2.out)).mono ?_
      rintro e w3 ⟨rfl, hb3⟩
      have HB3 : Hid _ := HB2.out.trans (hb3.mono HB2.out.size)
      clear hb3 HB2
      go_wp2
      go_ret3
      exact ⟨ret_t3 HF.out, HB3.out⟩
    | some i =>
      have hlt := splitI_lt hI
      have hno := @split_bad s i hp hI
      have hyes := @split_yes s i hp hI
      rw [cut_some hI] at hC
      have hz1 : (s.extract 0 i).size ≤ maxLen := by rw [ByteArray.size_extract]; omega
      have hz2 : (s.extract (i + 1) s.size).size ≤ maxLen := by rw [ByteArray.size_extract]; omega
      have hA := impl_plainH _ hz1
      have hB := impl_plainH _ hz2
      obtain ⟨a, ea⟩ : ∃ a, a = s.extract 0 i := ⟨_, rfl⟩
      obtain ⟨b, eb⟩ : ∃ b, b = s.extract (i + 1) s.size := ⟨_, rfl⟩
      rw [← ea, ← eb] at hno hyes hC
      rw [← ea] at hA
      rw [← eb] at hB
      have HC : Hid (∀ w, _) := hC
      clear hC hI hP hp hz1 hz2 ea eb hlt
      cases hpa : plainB a
      · have HF : Hid (splitT s = (⟨#[]⟩, ⟨#[]⟩, false)) := hno (fun h => by rw [hpa] at h; exact absurd h.1 (by decide))
        rw [hpa] at hA
        have HA : Hid (∀ w, _) := hA
        clear hA hB hpa hno hyes
        go_enter Tryz.func76, Tryz.ntmps76
        go_wp2_with fail
        refine (HP.out _ hT.out).mono ?_
        rintro e w1 ⟨rfl, hb1⟩
        have HB1 : Hid _ := hb1
        clear hb1
        go_wp2_with fail
        refine (HC.out _).mono ?_
        rintro e w2 ⟨rfl, hb2⟩
        have HB2 : Hid _ := HB1.out.trans (hb2.mono HB1.out.size)
        clear hb2 HB1
        go_wp2_with fail
        refine (HA.out _ (hT.out.below HB2.out)).mono ?_
        rintro e w3 ⟨rfl, hb3⟩
        have HB3 : Hid _ := HB2.out.trans (hb3.mono HB2.out.size)
        clear hb3 HB2
        go_wp2
        go_ret3
        exact ⟨ret_t3 HF.out, HB3.out⟩
      · rw [hpa] at hA
        have HA : Hid (∀ w, _) := hA
        cases hpb : plainB b
        · have HF : Hid (splitT s = (⟨#[]⟩, ⟨#[]⟩, false)) := hno (fun h => by rw [hpb] at h; exact absurd h.2 (by decide))
          rw [hpb] at hB
          have HB : Hid (∀ w, _) := hB
          clear hA hB hpa hpb hno hyes
          go_enter Tryz.func76, Tryz.ntmps76
          go_wp2_with fail
          refine (HP.out _ hT.out).mono ?_
          rintro e w1 ⟨rfl, hb1⟩
          have HB1 : Hid _ := hb1
          clear hb1
          go_wp2_with fail
          refine (HC.out _).mono ?_
          rintro e w2 ⟨rfl, hb2⟩
          have HB2 : Hid _ := HB1.out.trans (hb2.mono HB1.out.size)
          clear hb2 HB1
          go_wp2_with fail
          refine (HA.out _ (hT.out.below HB2.out)).mono ?_
          rintro e w3 ⟨rfl, hb3⟩
          have HB3 : Hid _ := HB2.out.trans (hb3.mono HB2.out.size)
          clear hb3 HB2
          go_wp2_with fail
          refine (HB.out _ (hT.out.below HB3.out)).mono ?_
          rintro e w4 ⟨rfl, hb4⟩
          have HB4 : Hid _ := HB3.out.trans (hb4.mono HB3.out.size)
          clear hb4 HB3
          go_wp2
          go_ret3
          exact ⟨ret_t3 HF.out, HB4.out⟩
        · have HF : Hid (splitT s = (a, b, true)) := hyes hpa hpb
          rw [hpb] at hB
          have HB : Hid (∀ w, _) := hB
          clear hA hB hpa hpb hno hyes
          go_enter Tryz.func76, Tryz.ntmps76
          go_wp2_with fail
          refine (HP.out _ hT.out).mono ?_
          rintro e w1 ⟨rfl, hb1⟩
          have HB1 : Hid _ := hb1
          clear hb1
          go_wp2_with fail
          refine (HC.out _).mono ?_
          rintro e w2 ⟨rfl, hb2⟩
          have HB2 : Hid _ := HB1.out.trans (hb2.mono HB1.out.size)
          clear hb2 HB1
          go_wp2_with fail
          refine (HA.out _ (hT.out.below HB2.out)).mono ?_
          rintro e w3 ⟨rfl, hb3⟩
          have HB3 : Hid _ := HB2.out.trans (hb3.mono HB2.out.size)
          clear hb3 HB2
          go_wp2_with fail
          refine (HB.out _ (hT.out.below HB3.out)).mono ?_
          rintro e w4 ⟨rfl, hb4⟩
          have HB4 : Hid _ := HB3.out.trans (hb4.mono HB3.out.size)
          clear hb4 HB3
          go_wp2
          go_ret3
          exact ⟨ret_t3 HF.out, HB4.out⟩
  · rw [hp] at hP
    have HP : Hid (∀ w, _) := hP
    have HF : Hid (splitT s = (⟨#[]⟩, s, true)) := split_plain hp
    clear hP hp
    go_enter Tryz.func76, Tryz.ntmps76
    go_wp2_with fail
    refine (HP.out _ hT.out).mono ?_
    rintro e w1 ⟨rfl, hb1⟩
    have HB1 : Hid _ := hb1
    clear hb1
    go_wp2
    go_ret3
    exact ⟨ret_t3 HF.out, HB1.out⟩
/-! ### Two parts as a name -/
theorem impl_split_t3 (s : ByteArray) (a b : ByteArray) (ok : Bool) (h : splitT s = (a, b, ok)) (hs : s.size ≤ maxLen) (w : World) (hT : Tabs w) : Calls Tryz.prog 76 #[.string s] w fun e w' => e = .returned (.tuple #[.string a, .string b, .bool ok]) ∧ Below w.heap.size w w' := by
  have := impl_split s w hs hT
  rw [h] at this
  exact this
set_option maxRecDepth 100000 in
set_option maxHeartbeats 2000000 in
theorem impl_join (pre loc : ByteArray) (w : World) (hp : pre.size ≤ 1048576) (hl : loc.size ≤ 1048576) (hT : Hid (Tabs w)) :
    Calls Tryz.prog 58 #[.string pre, .string loc] w fun e w' => e = .returned (.string (joinR pre loc)) ∧ Below w.heap.size w w' := by
  obtain ⟨s, hj⟩ : ∃ s, joined pre loc = s := ⟨_, rfl⟩
  obtain ⟨a, b, ok, hT⟩ : ∃ a b ok, splitT s = (a, b, ok) := ⟨_, _, _, rfl⟩
  have hsz : s.size ≤ maxLen := by
    rw [← hj]; unfold joined maxLen; split
    · omega
    · rw [ByteArray.size_append, ByteArray.size_append]; show pre.size + 1 + loc.size ≤ _; omega
  have hc := impl_split_t3 s a b ok hT hsz
  have hyes := @join_yes pre loc s a b ok hj hT
  have hno := @join_no pre loc s a b ok hj hT
  by_cases hp0 : pre.size = 0
  · have he : pre.toList.isEmpty = true := isEmpty_of hp0
    obtain rfl : loc = s := by rw [← hj]; unfold joined; rw [if_pos hp0]
    have HC : Hid (∀ w, _) := hc
    clear hc hT hsz hj hp0
    cases ok
    · have HF : Hid _ := hno (.inl rfl)
      clear hyes hno
      go_enter Tryz.func58, Tryz.ntmps58
      go_wp2_with (go_at_call 76; refine (HC.out _ hT.out).mono ?_; rintro e w1 ⟨rfl, hb1⟩)
      go_ret
      exact ⟨ret_str HF.out.symm, hb1⟩
    · cases e1 : (a.toList == pre.toList)
      · have HF : Hid _ := hno (.inr (.inl e1))
        clear hyes hno
        go_enter Tryz.func58, Tryz.ntmps58
        go_wp2_with (go_at_call 76; refine (HC.out _ hT.out).mono ?_; rintro e w1 ⟨rfl, hb1⟩)
        go_ret
        exact ⟨ret_str HF.out.symm, hb1⟩
      · cases e2 : (b.toList == loc.toList)
        · have HF : Hid _ := hno (.inr (.inr e2))
          clear hyes hno
          go_enter Tryz.func58, Tryz.ntmps58
          go_wp2_with (go_at_call 76; refine (HC.out _ hT.out).mono ?_; rintro e w1 ⟨rfl, hb1⟩)
          go_ret
          exact ⟨ret_str HF.out.symm, hb1⟩
        · have HF : Hid _ := hyes rfl e1 e2
          clear hyes hno
          go_enter Tryz.func58, Tryz.ntmps58
          go_wp2_with (go_at_call 76; refine (HC.out _ hT.out).mono ?_; rintro e w1 ⟨rfl, hb1⟩)
          go_ret
          exact ⟨ret_str HF.out.symm, hb1⟩
  · have he : pre.toList.isEmpty = false := isEmpty_no hp0
    have hsl : pre ++ ⟨#[58]⟩ ++ loc = s := by rw [← hj]; unfold joined; rw [if_neg hp0]
    have HC : Hid (∀ w, _) := hc
    clear hc hT hsz hj hp0
    cases ok
    · have HF : Hid _ := hno (.inl rfl)
      clear hyes hno
      go_enter Tryz.func58, Tryz.ntmps58
      go_wp2_with (go_at_call 76; refine (HC.out _ hT.out).mono ?_; rintro e w1 ⟨rfl, hb1⟩)
      go_ret
      exact ⟨ret_str HF.out.symm, hb1⟩
    · cases e1 : (a.toList == pre.toList)
      · have HF : Hid _ := hno (.inr (.inl e1))
        clear hyes hno
        go_enter Tryz.func58, Tryz.ntmps58
        go_wp2_with (go_at_call 76; refine (HC.out _ hT.out).mono ?_; rintro e w1 ⟨rfl, hb1⟩)
        go_ret
        exact ⟨ret_str HF.out.symm, hb1⟩
      · cases e2 : (b.toList == loc.toList)
        · have HF : Hid _ := hno (.inr (.inr e2))
          clear hyes hno
          go_enter Tryz.func58, Tryz.ntmps58
          go_wp2_with (go_at_call 76; refine (HC.out _ hT.out).mono ?_; rintro e w1 ⟨rfl, hb1⟩)
          go_ret
          exact ⟨ret_str HF.out.symm, hb1⟩
        · have HF : Hid _ := hyes rfl e1 e2
          clear hyes hno
          go_enter Tryz.func58, Tryz.ntmps58
          go_wp2_with (go_at_call 76; refine (HC.out _ hT.out).mono ?_; rintro e w1 ⟨rfl, hb1⟩)
          go_ret
          exact ⟨ret_str HF.out.symm, hb1⟩
end Go.Proofs.YtmiiilamjbhheaaGreatDoor.names
