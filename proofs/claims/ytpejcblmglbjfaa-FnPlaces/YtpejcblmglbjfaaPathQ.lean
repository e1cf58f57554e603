/-
  Paths: whether one begins with another; the specification's l1In, Under, SamePath; the program's SamePath, Under.
-/
import Derived.Test.YtpejcblmglbjfaaIntFns
namespace Go.Proofs.Ytpejcblmglbjfaa.paths
open Go.ChangeShapes Go.WideShapes Go.ChangeAt Go.RowKit
open ints (IntsAt int0 okI)
set_option linter.unusedVariables false
theorem take_next {L : List Int} {k : Nat} (hk : k < L.length) : L.take (k + 1) = L.take k ++ [int0 L k] := by
  rw [List.take_succ_eq_append_getElem hk]
  congr 2
  unfold int0
  rw [List.getD_eq_getElem?_getD, List.getElem?_eq_getElem hk]
  rfl
/-- Whether the one begins with the other. -/
def underB (L M : List Int) : Bool := M.isPrefixOf L
def sameB (L M : List Int) : Bool := (L.length == M.length) && underB L M
theorem under_yes : ∀ (L M : List Int), M.length ≤ L.length → (∀ i, i < M.length → int0 L i = int0 M i) → underB L M = true
  | L, [], _, _ => by cases L <;> rfl
  | [], y :: M, h, _ => by simp at h
  | x :: L, y :: M, h, hh => by
    have h0 : x = y := hh 0 (by simp)
    have h1 := under_yes L M (by simpa using h) (fun i hi => hh (i + 1) (by simpa using hi))
    unfold underB at h1 ⊢
    simp [List.isPrefixOf, h0, h1]
theorem under_no : ∀ (L M : List Int) (k : Nat), k < M.length → (L.length ≤ k ∨ int0 L k ≠ int0 M k) → underB L M = false
  | L, [], k, hk, _ => by simp at hk
  | [], y :: M, k, hk, h => rfl
  | x :: L, y :: M, 0, hk, h => by
    have h0 : x ≠ y := by
      rcases h with h | h
      · simp at h
      · exact h
    unfold underB
    simp [List.isPrefixOf, Ne.symm h0]
  | x :: L, y :: M, k + 1, hk, h => by
    have h1 := under_no L M k (by simpa using hk) (by
      rcases h with h | h
      · exact .inl (by simpa using h)
      · exact .inr h)
    unfold underB at h1 ⊢
    simp [List.isPrefixOf, h1]
theorem under_take (L M : List Int) (h : M.length ≤ L.length) : sameB (L.take M.length) M = underB L M := by
  unfold sameB underB
  have hl : (L.take M.length).length = M.length := by rw [List.length_take]; omega
  rw [hl, beq_self_eq_true, Bool.true_and]
  rw [Bool.eq_iff_iff, List.isPrefixOf_iff_prefix, List.isPrefixOf_iff_prefix]
  constructor
  · intro h1; exact h1.trans (List.take_prefix _ _)
  · intro h1
    rw [List.prefix_iff_eq_take] at h1
    rw [← h1]
    exact List.prefix_rfl
theorem ret_bool {a b : Bool} (h : a = b) : Ending.returned (.bool a) = .returned (.bool b) := by rw [h]
def inB (lo hi n : Int) : Bool := decide (lo ≤ n ∧ n ≤ hi)
set_option maxHeartbeats 400000 in
theorem in_any (lo hi n : Int) (w : World) : Calls Try.prog 53 #[.int .i64 n, .int .i64 lo, .int .i64 hi] w fun e w' => e = .returned (.bool (inB lo hi n)) ∧ w' = w := by
  by_cases h : lo ≤ n
  · by_cases h1 : n ≤ hi
    · have hy : Hid (inB lo hi n = true) := decide_eq_true ⟨h, h1⟩
      go_enter Try.func53, Try.ntmps53
      go_wp2
      go_ret
      exact ⟨ret_bool hy.out.symm, rfl⟩
    · have hy : Hid (inB lo hi n = false) := decide_eq_false (fun e => h1 e.2)
      go_enter Try.func53, Try.ntmps53
      go_wp2
      go_ret
      exact ⟨ret_bool hy.out.symm, rfl⟩
  · have hy : Hid (inB lo hi n = false) := decide_eq_false (fun e => h e.1)
    go_enter Try.func53, Try.ntmps53
    go_wp2
    go_ret
    exact ⟨ret_bool hy.out.symm, rfl⟩
theorem in_is {lo hi n : Int} {c : Bool} (hc : inB lo hi n = c) (w : World) : Calls Try.prog 53 #[.int .i64 n, .int .i64 lo, .int .i64 hi] w fun e w' => e = .returned (.bool c) ∧ w' = w := by rw [← hc]; exact in_any lo hi n w
set_option maxRecDepth 100000 in
set_option maxHeartbeats 2000000 in
theorem spec_under (w : World) (a a' : Option Addr) (L M : List Int) (cap cap' : Nat) (hL : Hid (IntsAt w a L)) (hM : Hid (IntsAt w a' M)) :
    Calls Try.prog 21 #[.slice a L.length cap, .slice a' M.length cap'] w fun e w' => e = .returned (.bool (underB L M)) ∧ Below w.heap.size w w' := by
  have hlen := hL.out.short
  have hlen' := hM.out.short
  unfold maxLen at hlen hlen'
  obtain ⟨u, hu⟩ : ∃ u, underB L M = u := ⟨_, rfl⟩
  have HU : Hid (underB L M = u) := hu
  rw [hu]
  clear hu
  go_enter Try.func21, Try.ntmps21
  go_wp2
  go_loopw [5] (fun t wr => ∃ (k : Nat), k ≤ M.length ∧ t = .int .i64 k ∧ Hid (k ≤ L.length ∧ ∀ i, i < k → int0 L i = int0 M i) ∧ Hid (Below w.heap.size w wr)) (fun t _ => M.length - (intOf t).toNat)
  case atStart => exact ⟨0, Nat.zero_le _, rfl, ⟨Nat.zero_le _, fun i hi => by omega⟩, Below.refl _ _⟩
  case round =>
    obtain ⟨k, hk, rfl, hh, hbw⟩ := hrel
    by_cases hlt : k < M.length
    · by_cases hge : L.length ≤ k
      · have HF : Hid (u = false) := HU.out.symm.trans (under_no L M k hlt (.inl hge))
        have hd : decide ((k : Int) ≥ (L.length : Int)) = true := decide_eq_true (by omega)
        go_wp2_with fail
        go_quiet (fail)
        go_wp2
        go_ret
        exact ⟨ret_bool HF.out.symm, below_drewN hbw.out _⟩
      · obtain ⟨b, off, ha, hblt, hc⟩ := (hL.out.below (Nat.le_refl _) hbw.out).row (by omega)
        obtain ⟨b', off', ha', hblt', hc'⟩ := (hM.out.below (Nat.le_refl _) hbw.out).row (by omega)
        have hl := hc k (by omega)
        have hl' := hc' k hlt
        have hd : decide ((k : Int) ≥ (L.length : Int)) = false := decide_eq_false (by omega)
        have hge2 : k < L.length := by omega
        subst ha ha'
        by_cases he : int0 L k = int0 M k
        · have HN : Hid (k + 1 ≤ L.length ∧ ∀ i, i < k + 1 → int0 L i = int0 M i) := ⟨by omega, fun i hi => by
            by_cases e : i = k
            · subst e; exact he
            · exact hh.out.2 i (by omega)⟩
          rw [he] at hl
          generalize int0 M k = x at hl hl'
          have hxx : (x != x) = false := by simp
          clear hc hc' he
          go_wp2_with fail
          go_quiet (fail)
          go_wp2
          go_roundw
          case rel => exact ⟨k + 1, by omega, by go_num, HN.out, below_drewN hbw.out _⟩
          case measure => simp [intOf]; omega
        · have HF : Hid (u = false) := HU.out.symm.trans (under_no L M k hlt (.inr he))
          generalize int0 L k = x at hl he
          generalize int0 M k = y at hl' he
          have hxx : (x != y) = true := by simpa using he
          clear hc hc'
          go_wp2_with fail
          go_quiet (fail)
          go_wp2
          go_ret
          exact ⟨ret_bool HF.out.symm, below_drewN hbw.out _⟩
    · have HF : Hid (u = true) := HU.out.symm.trans (under_yes L M (by have := hh.out.1; omega) (fun i hi => hh.out.2 i (by omega)))
      go_wp2
      go_ret
      exact ⟨ret_bool HF.out.symm, hbw.out⟩
set_option maxRecDepth 100000 in
set_option maxHeartbeats 1000000 in
theorem spec_same (w : World) (a a' : Option Addr) (L M : List Int) (cap cap' : Nat) (hL : Hid (IntsAt w a L)) (hM : Hid (IntsAt w a' M)) :
    Calls Try.prog 19 #[.slice a L.length cap, .slice a' M.length cap'] w fun e w' => e = .returned (.bool (sameB L M)) ∧ Below w.heap.size w w' := by
  have hlen := hL.out.short
  have hlen' := hM.out.short
  unfold maxLen at hlen hlen'
  by_cases hl : L.length = M.length
  · have HU : Hid (sameB L M = underB L M) := by show _ = _; unfold sameB; rw [hl, beq_self_eq_true, Bool.true_and]
    have HC : Hid _ := spec_under w a a' L M cap cap' hL hM
    have hd : ((L.length : Int) == (M.length : Int)) = true := by rw [hl]; exact beq_self_eq_true _
    obtain ⟨u, hu⟩ : ∃ u, underB L M = u := ⟨_, rfl⟩
    rw [hu] at HC HU
    clear hu
    rw [HU.out]
    clear HU hl
    go_enter Try.func19, Try.ntmps19
    go_wp2_with fail
    refine Calls.mono HC.out ?_
    rintro e w1 ⟨rfl, hb⟩
    have HB : Hid _ := hb
    clear hb
    go_wp2
    go_ret
    exact ⟨rfl, HB.out⟩
  · have HU : Hid (sameB L M = false) := by show _ = _; unfold sameB; rw [beq_eq_false_iff_ne.2 hl, Bool.false_and]
    have hd : ((L.length : Int) == (M.length : Int)) = false := beq_eq_false_iff_ne.2 (by omega)
    rw [HU.out]
    go_enter Try.func19, Try.ntmps19
    go_wp2
    go_ret
    exact ⟨rfl, Below.refl _ _⟩
set_option maxRecDepth 100000 in
set_option maxHeartbeats 2000000 in
theorem lib_equal (w : World) (a a' : Option Addr) (L M : List Int) (cap cap' : Nat) (hL : Hid (IntsAt w a L)) (hM : Hid (IntsAt w a' M)) :
    Calls Try.prog 60 #[.slice a L.length cap, .slice a' M.length cap'] w fun e w' => e = .returned (.bool (sameB L M)) ∧ Below w.heap.size w w' := by
  have hlen := hL.out.short
  have hlen' := hM.out.short
  unfold maxLen at hlen hlen'
  by_cases hlm : L.length = M.length
  · have HU : Hid (sameB L M = underB L M) := by show _ = _; unfold sameB; rw [hlm, beq_self_eq_true, Bool.true_and]
    rw [HU.out]
    obtain ⟨u, hu⟩ : ∃ u, underB L M = u := ⟨_, rfl⟩
    have HV : Hid (underB L M = u) := hu
    rw [hu]
    clear hu HU
    go_enter Try.func60, Try.ntmps60
    go_wp2
    go_loopw [13, 5] (fun t i wr => ∃ (k : Nat), k ≤ M.length ∧ t = .int .i64 k ∧ Hid (k ≤ L.length ∧ ∀ i, i < k → int0 L i = int0 M i) ∧ Hid (Below w.heap.size w wr)) (fun t _ _ => M.length - (intOf t).toNat)
    case atStart => exact ⟨0, Nat.zero_le _, rfl, ⟨Nat.zero_le _, fun i hi => by omega⟩, Below.refl _ _⟩
    case round =>
      obtain ⟨k, hk, rfl, hh, hbw⟩ := hrel
      by_cases hlt : k < M.length
      · obtain ⟨b, off, ha, hblt, hc⟩ := (hL.out.below (Nat.le_refl _) hbw.out).row (by omega)
        obtain ⟨b', off', ha', hblt', hc'⟩ := (hM.out.below (Nat.le_refl _) hbw.out).row (by omega)
        have hl := hc k (by omega)
        have hl' := hc' k hlt
        have hge2 : k < L.length := by omega
        subst ha ha'
        by_cases he : int0 L k = int0 M k
        · have HN : Hid (k + 1 ≤ L.length ∧ ∀ i, i < k + 1 → int0 L i = int0 M i) := ⟨by omega, fun i hi => by
            by_cases e : i = k
            · subst e; exact he
            · exact hh.out.2 i (by omega)⟩
          rw [he] at hl
          generalize int0 M k = x at hl hl'
          have hxx : (x != x) = false := by simp
          clear hc hc' he
          go_wp2_with fail
          go_quiet (fail)
          go_wp2
          go_roundw
          case rel => exact ⟨k + 1, by omega, by go_num, HN.out, below_drewN hbw.out _⟩
          case measure => simp [intOf]; omega
        · have HF : Hid (u = false) := HV.out.symm.trans (under_no L M k hlt (.inr he))
          generalize int0 L k = x at hl he
          generalize int0 M k = y at hl' he
          have hxx : (x != y) = true := by simpa using he
          clear hc hc'
          go_wp2_with fail
          go_quiet (fail)
          go_wp2
          go_ret
          exact ⟨ret_bool HF.out.symm, below_drewN hbw.out _⟩
      · have HF : Hid (u = true) := HV.out.symm.trans (under_yes L M (by omega) (fun i hi => hh.out.2 i (by omega)))
        go_wp2
        go_ret
        exact ⟨ret_bool HF.out.symm, hbw.out⟩
  · have HU : Hid (sameB L M = false) := by show _ = _; unfold sameB; rw [beq_eq_false_iff_ne.2 hlm, Bool.false_and]
    rw [HU.out]
    go_enter Try.func60, Try.ntmps60
    go_wp2
    go_ret
    exact ⟨rfl, Below.refl _ _⟩
theorem impl_same (w : World) (a a' : Option Addr) (L M : List Int) (cap cap' : Nat) (hL : Hid (IntsAt w a L)) (hM : Hid (IntsAt w a' M)) :
    Calls Try.prog 18 #[.slice a L.length cap, .slice a' M.length cap'] w fun e w' => e = .returned (.bool (sameB L M)) ∧ Below w.heap.size w w' := by
  have HC : Hid _ := lib_equal w a a' L M cap cap' hL hM
  generalize sameB L M = u at HC ⊢
  go_enter Try.func18, Try.ntmps18
  go_wp2_with fail
  refine Calls.mono HC.out ?_
  rintro e w1 ⟨rfl, hb⟩
  have HB : Hid _ := hb
  clear hb
  go_wp2
  go_ret
  exact ⟨rfl, HB.out⟩
theorem ints_take {w : World} {a : Option Addr} {L : List Int} {n : Nat} (h : IntsAt w a L) (hn : n ≤ L.length) : IntsAt w a (L.take n) := by
  have hl : (L.take n).length = n := by rw [List.length_take]; omega
  have hat : ∀ i, i < n → int0 (L.take n) i = int0 L i := fun i hi => by unfold int0; simp [List.getD, hi]
  refine ⟨fun h0 => ?_, by rw [hl]; exact Nat.le_trans hn h.short, fun i hi => ?_⟩
  · rw [hl] at h0
    obtain ⟨b, off, ha, hlt, hc⟩ := h.row (by omega)
    refine ⟨b, off, ha, hlt, fun i hi => ?_⟩
    rw [hl] at hi
    rw [hat i hi]
    exact hc i (by omega)
  · rw [hl] at hi
    rw [hat i hi]
    exact h.fit i (by omega)
set_option maxRecDepth 100000 in
set_option maxHeartbeats 1000000 in
theorem impl_under (w : World) (a a' : Option Addr) (L M : List Int) (cap cap' : Nat) (hcap : L.length ≤ cap) (hL : Hid (IntsAt w a L)) (hM : Hid (IntsAt w a' M)) :
    Calls Try.prog 20 #[.slice a L.length cap, .slice a' M.length cap'] w fun e w' => e = .returned (.bool (underB L M)) ∧ Below w.heap.size w w' := by
  have hlen := hL.out.short
  have hlen' := hM.out.short
  unfold maxLen at hlen hlen'
  by_cases hl : M.length ≤ L.length
  · have hd : decide ((L.length : Int) ≥ (M.length : Int)) = true := decide_eq_true (by omega)
    have hc := fun c => impl_same w a a' (L.take M.length) M c cap' (ints_take hL.out hl) hM
    rw [under_take L M hl, show (L.take M.length).length = M.length by rw [List.length_take]; omega] at hc
    have HC : Hid (∀ c, _) := hc
    generalize underB L M = u at HC ⊢
    clear hc
    go_enter Try.func20, Try.ntmps20
    go_wp2_with fail
    refine Calls.mono (HC.out _) ?_
    rintro e w1 ⟨rfl, hb⟩
    have HB : Hid _ := hb
    clear hb
    go_wp2
    go_ret
    exact ⟨rfl, HB.out⟩
  · have HU : Hid (underB L M = false) := under_no L M L.length (by omega) (.inl (Nat.le_refl _))
    have hd : decide ((L.length : Int) ≥ (M.length : Int)) = false := decide_eq_false (by omega)
    rw [HU.out]
    go_enter Try.func20, Try.ntmps20
    go_wp2
    go_ret
    exact ⟨rfl, Below.refl _ _⟩
end Go.Proofs.Ytpejcblmglbjfaa.paths
