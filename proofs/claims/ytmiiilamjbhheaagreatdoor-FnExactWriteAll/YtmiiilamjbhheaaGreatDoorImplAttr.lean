/-
  What the program's attrOk and attrOrder answer.
-/
import Derived.Test.YtmiiilamjbhheaaGreatDoorImplRight
import Derived.Test.YtmiiilamjbhheaaGreatDoorImplDecl
import Derived.Deep.RegionWith
namespace Go.Proofs.YtmiiilamjbhheaaGreatDoor.trees
open Go.ChangeShapes Go.WideShapes Go.ChangeAt Go.RowKit
open pairs (Pair at0 PairsAt)
open scopes (ret_bool preOkB uriOkB textB xmlB)
set_option linter.unusedVariables false
theorem less_irr : ∀ x : List UInt8, Op.bytesLess x x = false
  | [] => rfl
  | a :: x => by
    rw [Op.bytesLess, less_irr x]
    simp
theorem less_eq : ∀ x y : List UInt8, Op.bytesLess x y = false → Op.bytesLess y x = false → x = y
  | [], [], _, _ => rfl
  | [], _ :: _, h, _ => by simp [Op.bytesLess] at h
  | _ :: _, [], _, h => by simp [Op.bytesLess] at h
  | a :: x, b :: y, h1, h2 => by
    simp only [Op.bytesLess, Bool.or_eq_false_iff, decide_eq_false_iff_not, Bool.and_eq_false_iff, beq_eq_false_iff_ne] at h1 h2
    have e : a = b := by
      have n1 := h1.1
      have n2 := h2.1
      rw [UInt8.lt_iff_toNat_lt] at n1 n2
      exact UInt8.toNat_inj.1 (by omega)
    subst e
    have k1 : Op.bytesLess x y = false := h1.2.resolve_left (fun h => h rfl)
    have k2 : Op.bytesLess y x = false := h2.2.resolve_left (fun h => h rfl)
    rw [less_eq x y k1 k2]
theorem less_asym : ∀ x y : List UInt8, Op.bytesLess x y = true → Op.bytesLess y x = false
  | _, [], h => by simp [Op.bytesLess] at h
  | [], _ :: _, _ => rfl
  | a :: x, b :: y, h => by
    simp only [Op.bytesLess, Bool.or_eq_true, decide_eq_true_eq, Bool.and_eq_true, beq_iff_eq] at h
    simp only [Op.bytesLess, Bool.or_eq_false_iff, decide_eq_false_iff_not, Bool.and_eq_false_iff, beq_eq_false_iff_ne]
    rcases h with h | ⟨rfl, h⟩
    · rw [UInt8.lt_iff_toNat_lt] at h
      refine ⟨fun h' => ?_, Or.inl fun e => ?_⟩
      · rw [UInt8.lt_iff_toNat_lt] at h'; omega
      · subst e; omega
    · exact ⟨UInt8.lt_irrefl _, Or.inr (less_asym x y h)⟩
def cmpB (a b : ByteArray) : Int := bif Op.bytesLess a.toList b.toList then -1 else bif Op.bytesLess b.toList a.toList then 1 else 0
theorem is_nan (s : ByteArray) (w : World) : Calls Tryz.prog 135 #[.string s] w fun e w' => e = .returned (.bool false) ∧ w' = w := by
  go_enter Tryz.func135, Tryz.ntmps135
  go_wp2
  go_ret
  exact ⟨by simp, rfl⟩
set_option maxRecDepth 100000 in
set_option maxHeartbeats 2000000 in
theorem compare_text (a b : ByteArray) (w : World) : Calls Tryz.prog 129 #[.string a, .string b] w fun e w' => e = .returned (.int .i64 (cmpB a b)) ∧ w' = w := by
  obtain ⟨r, hr⟩ : ∃ r, cmpB a b = r := ⟨_, rfl⟩
  rw [hr]
  unfold cmpB at hr
  cases h1 : Op.bytesLess a.toList b.toList
  · rw [h1, cond_false] at hr
    cases h2 : Op.bytesLess b.toList a.toList
    · rw [h2, cond_false] at hr
      subst hr
      have h3 : (a.toList == b.toList) = true := by rw [less_eq _ _ h1 h2]; simp
      go_enter Tryz.func129, Tryz.ntmps129
      go_wp2_with (go_at_call 135; refine (is_nan _ _).mono ?_; rintro e w' ⟨rfl, rfl⟩)
      go_ret
      exact ⟨rfl, rfl⟩
    · rw [h2, cond_true] at hr
      subst hr
      have h3 : (a.toList == b.toList) = false := by
        rw [beq_eq_false_iff_ne]
        intro e
        rw [e, less_irr] at h2
        cases h2
      go_enter Tryz.func129, Tryz.ntmps129
      go_wp2_with (go_at_call 135; refine (is_nan _ _).mono ?_; rintro e w' ⟨rfl, rfl⟩)
      go_ret
      exact ⟨rfl, rfl⟩
  · rw [h1, cond_true] at hr
    subst hr
    go_enter Tryz.func129, Tryz.ntmps129
    go_wp2_with (go_at_call 135; refine (is_nan _ _).mono ?_; rintro e w' ⟨rfl, rfl⟩)
    go_ret
    exact ⟨rfl, rfl⟩
set_option maxRecDepth 100000 in
set_option maxHeartbeats 2000000 in
theorem or_two (b : Nat) (c0 c1 : Int) (w : World) (h0 : w.cell? ⟨b, 0, none⟩ = some (.int .i64 c0)) (h1 : w.cell? ⟨b, 1, none⟩ = some (.int .i64 c1)) : Calls Tryz.prog 128 #[.slice (some ⟨b, 0, none⟩) 2 2] w fun e w' => e = .returned (.int .i64 (bif c0 == 0 then c1 else c0)) ∧ w' = w := by
  obtain ⟨r, hr⟩ : ∃ r, (bif c0 == 0 then c1 else c0) = r := ⟨_, rfl⟩
  rw [hr]
  have HR : Hid _ := hr
  clear hr
  go_enter Tryz.func128, Tryz.ntmps128
  go_wp2_with fail
  go_loopw [8] (fun t wr => ∃ i : Nat, i ≤ 2 ∧ t = .int .i64 i ∧ Hid (0 < i → c0 = 0) ∧ Hid (1 < i → c1 = 0) ∧ wr = w) (fun t _ => 2 - (intOf t).toNat)
  case atStart => exact ⟨0, by omega, rfl, (fun h => by omega), (fun h => by omega), rfl⟩
  case round =>
    obtain ⟨i, hi, rfl, z0, z1, rfl⟩ := hrel
    by_cases hlt : (i : Int) < 2
    · obtain rfl | rfl : i = 0 ∨ i = 1 := by omega
      · cases e0 : (c0 == 0)
        · have HF : Hid (c0 = r) := by have := HR.out; rw [e0, cond_false] at this; exact this
          have e0' : (c0 != 0) = true := by simpa using e0
          go_wp2
          go_ret
          exact ⟨congrArg (fun z => Ending.returned (Value.int .i64 z)) HF.out, rfl⟩
        · have HZ : Hid (c0 = 0) := by show _ = _; simpa using e0
          have e0' : (c0 != 0) = false := by simpa using e0
          go_wp2
          go_roundw
          case rel => exact ⟨1, by omega, by go_num, (fun _ => HZ.out), (fun h => by omega), trivial⟩
          case measure => simp [intOf]
      · have HF : Hid (c1 = r) := by have := HR.out; rw [z0.out (by omega)] at this; exact this
        cases e1 : (c1 == 0)
        · have e1' : (c1 != 0) = true := by simpa using e1
          go_wp2
          go_ret
          exact ⟨congrArg (fun z => Ending.returned (Value.int .i64 z)) HF.out, rfl⟩
        · have HZ : Hid (c1 = 0) := by show _ = _; simpa using e1
          have e1' : (c1 != 0) = false := by simpa using e1
          go_wp2
          go_roundw
          case rel => exact ⟨2, by omega, by go_num, (fun _ => z0.out (by omega)), (fun _ => HZ.out), trivial⟩
          case measure => simp [intOf]
    · obtain rfl : i = 2 := by omega
      have HF : Hid (0 = r) := by have := HR.out; rw [z0.out (by omega)] at this; simp only [beq_self_eq_true, cond_true] at this; rw [z1.out (by omega)] at this; exact this
      go_wp2
      go_ret
      exact ⟨congrArg (fun z => Ending.returned (Value.int .i64 z)) HF.out, rfl⟩
theorem compare_H (a b : ByteArray) (c : Int) (h : cmpB a b = c) (w : World) : Calls Tryz.prog 129 #[.string a, .string b] w fun e w' => e = .returned (.int .i64 c) ∧ w' = w := by rw [← h]; exact compare_text a b w
def ordI (x y : Att) : Int := bif cmpB x.uri y.uri == 0 then cmpB x.loc y.loc else cmpB x.uri y.uri
theorem cmp_less {a b : ByteArray} (h : Op.bytesLess a.toList b.toList = true) : cmpB a b = -1 := by unfold cmpB; rw [h]; rfl
theorem cmp_more {a b : ByteArray} (h : Op.bytesLess b.toList a.toList = true) : cmpB a b = 1 := by unfold cmpB; rw [h, less_asym _ _ h]; rfl
theorem cmp_same {a b : ByteArray} (h : Op.bytesLess a.toList b.toList = false) (h' : Op.bytesLess b.toList a.toList = false) : cmpB a b = 0 := by unfold cmpB; rw [h, h']; rfl
theorem cmp_geq (a b : ByteArray) : decide (0 ≤ cmpB a b) = !Op.bytesLess a.toList b.toList := by
  cases h : Op.bytesLess a.toList b.toList
  · cases h' : Op.bytesLess b.toList a.toList
    · rw [cmp_same h h']; rfl
    · rw [cmp_more h']; rfl
  · rw [cmp_less h]; rfl
theorem ord_geq (x y : Att) : decide (0 ≤ ordI x y) = !lessB x y := by
  unfold ordI lessB
  cases h : Op.bytesLess x.uri.toList y.uri.toList
  · cases h' : Op.bytesLess y.uri.toList x.uri.toList
    · rw [cmp_same h h', less_eq _ _ h h']
      simp only [beq_self_eq_true, cond_true, Bool.false_or, Bool.true_and]
      exact cmp_geq _ _
    · have : (x.uri.toList == y.uri.toList) = false := by
        rw [beq_eq_false_iff_ne]
        intro e
        rw [e, less_irr] at h'
        cases h'
      rw [cmp_more h', this]; rfl
  · rw [cmp_less h]; rfl
def attrB (x : Att) : Bool := !(x.pre.toList.isEmpty != x.uri.toList.isEmpty) && (!(x.pre.toList.isEmpty && xmlnsB x.loc) && (preOkB x.pre && (uriOkB x.uri && (names.plainB x.loc && textB x.val))))
theorem attrB_eq (x : Att) : attrB x = attB x := by
  unfold attrB attB preOkB uriOkB l5PreB uriB
  have : decide ((x.uri.size : Int) ≤ 40) = decide (x.uri.size ≤ 40) := decide_eq_decide.2 (by omega)
  rw [this]
  cases x.pre.toList.isEmpty <;> cases x.uri.toList.isEmpty <;> cases xmlnsB x.loc <;> cases names.plainB x.pre <;> cases xmlB x.pre <;> cases names.plainB x.loc <;> cases textB x.val <;> cases textB x.uri <;> cases decide (x.uri.size ≤ 40) <;> rfl
end Go.Proofs.YtmiiilamjbhheaaGreatDoor.trees
