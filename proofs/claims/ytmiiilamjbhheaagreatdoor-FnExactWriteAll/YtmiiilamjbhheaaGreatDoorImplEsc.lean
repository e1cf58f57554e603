/-
  What the program's EscText, EscAttr answer: the same as the specification's; byte by byte into a builder.
-/
import Derived.Test.YtmiiilamjbhheaaGreatDoorEsc
import Derived.Test.YtmiiilamjbhheaaGreatDoorBuilders
namespace Go.Proofs.YtmiiilamjbhheaaGreatDoor.escs
open Go.ChangeShapes Go.WideShapes Go.ChangeAt Go.RowKit
open builders (IsB)
set_option linter.unusedVariables false
/-- What stands for a byte, or nothing. -/
def refT (b : Int) : ByteArray := if b = 38 then ⟨#[38, 97, 109, 112, 59]⟩ else if b = 60 then ⟨#[38, 108, 116, 59]⟩ else if b = 62 then ⟨#[38, 103, 116, 59]⟩ else if b = 13 then ⟨#[38, 35, 49, 51, 59]⟩ else ⟨#[]⟩
def refA (b : Int) : ByteArray := if b = 34 then ⟨#[38, 113, 117, 111, 116, 59]⟩ else if b = 9 then ⟨#[38, 35, 57, 59]⟩ else if b = 10 then ⟨#[38, 35, 49, 48, 59]⟩ else refT b
def refOf (attr : Bool) (b : Int) : ByteArray := if attr = true then refA b else refT b
set_option maxRecDepth 100000 in
set_option maxHeartbeats 1000000 in
theorem impl_textRef (b : Int) (w : World) (h0 : 0 ≤ b) (h1 : b ≤ 255) : Calls Tryz.prog 62 #[.int .u8 b] w fun e w' => e = .returned (.string (refT b)) ∧ w' = w := by
  by_cases hy : b = 38 ∨ b = 60 ∨ b = 62 ∨ b = 13
  · rcases hy with rfl | rfl | rfl | rfl
    all_goals
      go_enter Tryz.func62, Tryz.ntmps62
      go_wp2
      go_ret
      exact ⟨rfl, rfl⟩
  · have h1 : (b == 38) = false := by simp; omega
    have h2 : (b == 60) = false := by simp; omega
    have h3 : (b == 62) = false := by simp; omega
    have h4 : (b == 13) = false := by simp; omega
    have HF : Hid (⟨#[]⟩ = refT b) := by show _ = _; unfold refT; rw [if_neg (by omega), if_neg (by omega), if_neg (by omega), if_neg (by omega)]
    clear hy
    go_enter Tryz.func62, Tryz.ntmps62
    go_wp2
    go_ret
    exact ⟨ret_str HF.out, rfl⟩
theorem refT_size (b : Int) : (refT b).size ≤ 6 := by
  unfold refT
  repeat' split
  all_goals decide
theorem empty_yes {s : ByteArray} (h : s.toList.isEmpty = true) : s.size = 0 := by
  rw [Lib.toList_data] at h
  have := List.isEmpty_iff.1 h
  rw [Lib.size_eq, this]
  rfl
theorem empty_no {s : ByteArray} (h : s.toList.isEmpty = false) : ¬ s.size = 0 := fun e => by
  rw [Lib.toList_data] at h
  rw [Lib.size_eq] at e
  rw [List.eq_nil_of_length_eq_zero e] at h
  exact absurd h (by decide)
theorem refOf_size (attr : Bool) (b : Int) : (refOf attr b).size ≤ 6 := by
  unfold refOf refA
  repeat' split
  all_goals first | exact refT_size b | decide
theorem refOf_cases (attr : Bool) (b : Int) (own : ByteArray) : ((refOf attr b).size = 0 ∧ escA attr b own = own) ∨ ((refOf attr b).size ≠ 0 ∧ escA attr b own = refOf attr b) := by
  by_cases h1 : b = 38
  · subst h1; cases attr <;> exact .inr ⟨by decide, rfl⟩
  by_cases h2 : b = 60
  · subst h2; cases attr <;> exact .inr ⟨by decide, rfl⟩
  by_cases h3 : b = 62
  · subst h3; cases attr <;> exact .inr ⟨by decide, rfl⟩
  by_cases h4 : b = 13
  · subst h4; cases attr <;> exact .inr ⟨by decide, rfl⟩
  have hT : refT b = ⟨#[]⟩ := by unfold refT; rw [if_neg h1, if_neg h2, if_neg h3, if_neg h4]
  cases attr
  · refine .inl ⟨?_, escA_own own h1 h2 h3 h4 (by rintro ⟨h, _⟩; cases h) (by rintro ⟨h, _⟩; cases h) (by rintro ⟨h, _⟩; cases h)⟩
    show (refT b).size = 0
    rw [hT]
    rfl
  · by_cases h5 : b = 34
    · subst h5; exact .inr ⟨by decide, rfl⟩
    by_cases h6 : b = 9
    · subst h6; exact .inr ⟨by decide, rfl⟩
    by_cases h7 : b = 10
    · subst h7; exact .inr ⟨by decide, rfl⟩
    refine .inl ⟨?_, escA_own own h1 h2 h3 h4 (fun e => h5 e.2) (fun e => h6 e.2) (fun e => h7 e.2)⟩
    show (refA b).size = 0
    unfold refA
    rw [if_neg h5, if_neg h6, if_neg h7, hT]
    rfl
theorem esc_ref {attr : Bool} {b : Int} (own : ByteArray) (h : (refOf attr b).toList.isEmpty = false) : escA attr b own = refOf attr b := by
  rcases refOf_cases attr b own with ⟨h1, h2⟩ | ⟨h1, h2⟩
  · exact absurd h1 (empty_no h)
  · exact h2
theorem esc_bare {attr : Bool} {b : Int} (own : ByteArray) (h : (refOf attr b).toList.isEmpty = true) : escA attr b own = own := by
  rcases refOf_cases attr b own with ⟨h1, h2⟩ | ⟨h1, h2⟩
  · exact h2
  · exact absurd (empty_yes h) h1
theorem one_byte (s : ByteArray) (k : Nat) (h : k < s.size) : s.extract k (k + 1) = ⟨#[s.get! k]⟩ := by
  rw [get_of s k h]
  apply ByteArray.ext
  obtain ⟨a⟩ := s
  rw [ByteArray.data_extract]
  show a.extract k (k + 1) = #[a[k]]
  apply Array.ext_getElem?
  intro i
  have hk : k < a.size := h
  cases i with
  | zero => simp [Array.getElem?_extract, hk]; omega
  | succ i => simp [Array.getElem?_extract]; omega
set_option maxRecDepth 100000 in
set_option maxHeartbeats 1000000 in
theorem impl_attrRef (b : Int) (w : World) (h0 : 0 ≤ b) (h1 : b ≤ 255) : Calls Tryz.prog 95 #[.int .u8 b] w fun e w' => e = .returned (.string (refA b)) ∧ w' = w := by
  by_cases hy : b = 34 ∨ b = 9 ∨ b = 10
  · rcases hy with rfl | rfl | rfl
    all_goals
      go_enter Tryz.func95, Tryz.ntmps95
      go_wp2
      go_ret
      exact ⟨rfl, rfl⟩
  · have h2 : (b == 34) = false := by simp; omega
    have h3 : (b == 9) = false := by simp; omega
    have h4 : (b == 10) = false := by simp; omega
    have HF : Hid (refT b = refA b) := by show _ = _; unfold refA; rw [if_neg (by omega), if_neg (by omega), if_neg (by omega)]
    have HC : Hid (∀ w, _) := fun w => impl_textRef b w h0 h1
    clear hy
    go_enter Tryz.func95, Tryz.ntmps95
    go_wp2_with (go_at_call 62; refine (HC.out _).mono ?_; rintro e w1 ⟨rfl, rfl⟩)
    go_ret
    exact ⟨ret_str HF.out, rfl⟩
/-- What a round of escape's loop keeps. -/
structure Rel (attr : Bool) (s : ByteArray) (w wr : World) (k : Nat) : Prop where
  own : IsB wr w.heap.size w.heap.size (escT attr s k)
  bel : Below w.heap.size w wr
theorem Rel.next {attr : Bool} {s x : ByteArray} {w wr w2 : World} {k : Nat} (h : Rel attr s w wr k) (hx : escAt attr s k = x) (h1 : IsB w2 w.heap.size w.heap.size (escT attr s k ++ x)) (h2 : Below w.heap.size wr w2) : Rel attr s w w2 (k + 1) := by
  rw [← hx] at h1
  exact ⟨h1, h.bel.trans h2⟩
theorem Rel.write {attr : Bool} {s x : ByteArray} {w wr : World} {k : Nat} (h : Rel attr s w wr k) (hk : k < s.size) (hs : s.size ≤ 1048576) (hx : escAt attr s k = x) : Calls Tryz.prog 33 #[.pointer (some ⟨w.heap.size, 0, none⟩), .string x] wr fun e w' => e = .returned (.tuple #[.int .i64 x.size, .nilIface]) ∧ Rel attr s w w' (k + 1) := by
  have hz := escT_size attr s k
  have hy := escAt_size attr s k
  rw [hx] at hy
  refine (builders.write_str w.heap.size w.heap.size (escT attr s k) x wr h.own (by omega) h.bel.size).mono ?_
  rintro e w' ⟨he, h1, h2, _⟩
  exact ⟨he, h.next hx h1 h2⟩
theorem Rel.byte {attr : Bool} {s : ByteArray} {w wr : World} {k : Nat} (h : Rel attr s w wr k) (hk : k < s.size) (hs : s.size ≤ 1048576) (hx : escAt attr s k = s.extract k (k + 1)) : Calls Tryz.prog 78 #[.pointer (some ⟨w.heap.size, 0, none⟩), .int .u8 (byteAt s k)] wr fun e w' => e = .returned .nilIface ∧ Rel attr s w w' (k + 1) := by
  have hz := escT_size attr s k
  refine (builders.write_byte w.heap.size w.heap.size (escT attr s k) (s.get! k) wr h.own (by omega) h.bel.size).mono ?_
  rintro e w' ⟨he, h1, h2, _⟩
  rw [← one_byte s k hk] at h1
  exact ⟨he, h.next hx h1 h2⟩
theorem Rel.done {attr : Bool} {s : ByteArray} {w wr : World} (h : Rel attr s w wr s.size) : Calls Tryz.prog 21 #[.pointer (some ⟨w.heap.size, 0, none⟩)] wr fun e w' => e = .returned (.string (escS attr s)) ∧ Below w.heap.size w w' := by
  refine (builders.to_str w.heap.size w.heap.size (escT attr s s.size) wr h.own h.bel.size).mono ?_
  rintro e w' ⟨he, h1, h2⟩
  exact ⟨he, h.bel.trans h2⟩
set_option maxRecDepth 100000 in
set_option maxHeartbeats 4000000 in
theorem impl_escape (attr : Bool) (F : Nat) (s : ByteArray) (w : World) (hs : s.size ≤ 1048576) (HF : Hid (∀ (b : Int) (w : World), 0 ≤ b → b ≤ 255 → Calls Tryz.prog F #[.int .u8 b] w fun e w' => e = .returned (.string (refOf attr b)) ∧ w' = w))
    (hen : ∀ args w, (callFunc F args).run Tryz.prog w = .ok (.enter F args) w) :
    Calls Tryz.prog 61 #[.string s, .func (.func F) #[] #[]] w fun e w' => e = .returned (.string (escS attr s)) ∧ Below w.heap.size w w' := by
  go_enter Tryz.func61, Tryz.ntmps61
  go_wp2
  go_loopw [10] (fun t wr => ∃ k : Nat, k ≤ s.size ∧ t = .int .i64 k ∧ Hid (Rel attr s w wr k)) (fun t _ => s.size - (intOf t).toNat)
  case atStart => exact ⟨0, Nat.zero_le _, rfl, ⟨builders.made w _ (Nat.le_refl _), (Below.refl _ _).alloc (Nat.le_refl _) _⟩⟩
  case round =>
    obtain ⟨k, hk, rfl, hR⟩ := hrel
    by_cases hlt : k < s.size
    · have hx := idx s k hlt
      have hr := byteAt_range s k
      have hk1 : (k : Int) + 1 ≤ s.size := by omega
      have hRef := HF.out (byteAt s k)
      have hE : escAt attr s k = escA attr (byteAt s k) (s.extract k (k + 1)) := rfl
      have hyes := @esc_ref attr (byteAt s k) (s.extract k (k + 1))
      have hno := @esc_bare attr (byteAt s k) (s.extract k (k + 1))
      have hW := fun x => hR.out.write (x := x) hlt hs
      have hB := hR.out.byte hlt hs
      obtain ⟨x, ex⟩ : ∃ x, x = byteAt s k := ⟨_, rfl⟩
      rw [← ex] at hx hr hE hyes hno hRef hB
      obtain ⟨u, eu⟩ : ∃ u, u = refOf attr x := ⟨_, rfl⟩
      rw [← eu] at hRef hyes hno
      cases he : u.toList.isEmpty
      · have HW : Hid _ := hW u (hE.trans (hyes he))
        have HRef : Hid _ := fun w => hRef w hr.1 hr.2
        clear ex eu hE hyes hno hW hB hRef
        go_wp2_with fail
        refine (HRef.out _).mono ?_
        rintro e w1 ⟨rfl, rfl⟩
        go_wp2_with fail
        refine Calls.mono HW.out ?_
        rintro e w2 ⟨rfl, hR2⟩
        have HR2 : Hid _ := hR2
        clear hR2
        go_wp2
        go_roundw
        case rel => exact ⟨k + 1, by omega, by go_num, HR2.out⟩
        case measure => simp [intOf]; omega
      · have HB : Hid _ := hB (hE.trans (hno he))
        have HRef : Hid _ := fun w => hRef w hr.1 hr.2
        clear ex eu hE hyes hno hW hB hRef
        go_wp2_with fail
        refine (HRef.out _).mono ?_
        rintro e w1 ⟨rfl, rfl⟩
        go_wp2_with fail
        refine Calls.mono HB.out ?_
        rintro e w2 ⟨rfl, hR2⟩
        have HR2 : Hid _ := hR2
        clear hR2
        go_wp2
        go_roundw
        case rel => exact ⟨k + 1, by omega, by go_num, HR2.out⟩
        case measure => simp [intOf]; omega
    · obtain rfl : k = s.size := by omega
      have HD : Hid _ := hR.out.done
      go_wp2_with fail
      refine Calls.mono HD.out ?_
      rintro e w2 ⟨rfl, hb⟩
      go_wp2
      go_ret
      exact ⟨rfl, hb⟩
set_option maxHeartbeats 1000000 in
theorem impl_escText (s : ByteArray) (w : World) (hs : s.size ≤ 1048576) : Calls Tryz.prog 51 #[.string s] w fun e w' => e = .returned (.string (escS false s)) ∧ Below w.heap.size w w' := by
  have HC : Hid (∀ w, _) := fun w => impl_escape false 62 s w hs (fun b w h0 h1 => impl_textRef b w h0 h1) (enters_of Tryz.func62 (by kernel_rfl) rfl)
  go_enter Tryz.func51, Tryz.ntmps51
  go_wp2_with (go_at_call 61; refine (HC.out _).mono ?_; rintro e w1 ⟨rfl, hb⟩)
  go_ret
  exact ⟨rfl, hb⟩
set_option maxHeartbeats 1000000 in
theorem impl_escAttr (s : ByteArray) (w : World) (hs : s.size ≤ 1048576) : Calls Tryz.prog 77 #[.string s] w fun e w' => e = .returned (.string (escS true s)) ∧ Below w.heap.size w w' := by
  have HC : Hid (∀ w, _) := fun w => impl_escape true 95 s w hs (fun b w h0 h1 => impl_attrRef b w h0 h1) (enters_of Tryz.func95 (by kernel_rfl) rfl)
  go_enter Tryz.func77, Tryz.ntmps77
  go_wp2_with (go_at_call 61; refine (HC.out _).mono ?_; rintro e w1 ⟨rfl, hb⟩)
  go_ret
  exact ⟨rfl, hb⟩
end Go.Proofs.YtmiiilamjbhheaaGreatDoor.escs
