/-
  How the specification draws texts.
-/
import Derived.Test.YtdojkaboejndiaaGreatDoorDraw2
namespace Go.Proofs.YtdojkaboejndiaaGreatDoor.draws
open Go.ChangeShapes Go.WideShapes Go.ChangeAt Go.RowKit
set_option linter.unusedVariables false

def textL : List ByteArray := [⟨#[97]⟩, ⟨#[98, 32, 99]⟩, ⟨#[32]⟩, ⟨#[10]⟩, ⟨#[195, 169]⟩, ⟨#[226, 130, 172]⟩, ⟨#[240, 159, 152, 128]⟩, ⟨#[60]⟩, ⟨#[38]⟩, ⟨#[62]⟩, ⟨#[34]⟩, ⟨#[39]⟩, ⟨#[93, 93, 62]⟩, ⟨#[45, 45]⟩, ⟨#[9]⟩, ⟨#[13]⟩, ⟨#[0]⟩, ⟨#[255]⟩, ⟨#[192, 128]⟩, ⟨#[239, 191, 190]⟩]
theorem textL_size : ∀ s ∈ textL, s.size ≤ 4 := by
  intro s hs
  simp only [textL, List.mem_cons, List.mem_nil_iff, or_false] at hs
  rcases hs with rfl | rfl | rfl | rfl | rfl | rfl | rfl | rfl | rfl | rfl | rfl | rfl | rfl | rfl | rfl | rfl | rfl | rfl | rfl | rfl <;> decide
theorem text_list (w : World) (cb len cap : Nat) (a : Option Addr) (hc : CurAt w cb a len cap) :
    Calls Tryz.prog 35 #[.pointer (some ⟨cb, 0, none⟩), .slice (some ⟨w.heap.size, 0, none⟩) 20 20] (w.alloc (.cells #[.string ⟨#[97]⟩, .string ⟨#[98, 32, 99]⟩, .string ⟨#[32]⟩, .string ⟨#[10]⟩, .string ⟨#[195, 169]⟩, .string ⟨#[226, 130, 172]⟩, .string ⟨#[240, 159, 152, 128]⟩, .string ⟨#[60]⟩, .string ⟨#[38]⟩, .string ⟨#[62]⟩, .string ⟨#[34]⟩, .string ⟨#[39]⟩, .string ⟨#[93, 93, 62]⟩, .string ⟨#[45, 45]⟩, .string ⟨#[9]⟩, .string ⟨#[13]⟩, .string ⟨#[0]⟩, .string ⟨#[255]⟩, .string ⟨#[192, 128]⟩, .string ⟨#[239, 191, 190]⟩] 9)) fun e w' => ∃ s, s ∈ textL ∧ e = .returned (.string s) ∧ CurAt w' cb a len cap ∧ ButFor cb w w' :=
  str_new w cb len cap 20 20 a textL _ 9 rfl rfl (by decide) (by decide) hc
theorem long_list (w : World) (cb len cap : Nat) (a : Option Addr) (hc : CurAt w cb a len cap) :
    Calls Tryz.prog 36 #[.pointer (some ⟨cb, 0, none⟩), .slice (some ⟨w.heap.size, 0, none⟩) 2 2] (w.alloc (.cells #[.int .i64 600, .int .i64 601] 3)) fun e w' => ∃ z, z ∈ [600, 601] ∧ e = .returned (.int .i64 z) ∧ CurAt w' cb a len cap ∧ ButFor cb w w' :=
  int_new w cb len cap 2 2 a [600, 601] _ 3 rfl rfl (by decide) (by decide) hc
def szOf : Value → Nat | .string s => s.size | _ => 0
theorem text_end {w w' : World} {cb len cap : Nat} {a : Option Addr} {s : ByteArray} (hs : s.size ≤ 700) (hc : CurAt w' cb a len cap) (hb : ButFor cb w w') : ∃ s' : ByteArray, Ending.returned (.string s) = .returned (.string s') ∧ s'.size ≤ 700 ∧ CurAt w' cb a len cap ∧ ButFor cb w w' := ⟨s, rfl, hs, hc, hb⟩
set_option maxRecDepth 100000 in
set_option maxHeartbeats 2000000 in
theorem text_any (w : World) (cb len cap : Nat) (a : Option Addr) (HC : Hid (CurAt w cb a len cap)) : Calls Tryz.prog 17 #[.pointer (some ⟨cb, 0, none⟩)] w fun e w' => ∃ s : ByteArray, e = .returned (.string s) ∧ s.size ≤ 700 ∧ CurAt w' cb a len cap ∧ ButFor cb w w' := by
  go_enter Tryz.func17, Tryz.ntmps17
  go_wp2_with fail
  refine (below_any _ _ _ _ _ _ (by omega) HC.out).mono ?_
  rintro e w1 ⟨x, rfl, hx0, hx1, hc1, hb1⟩
  have HC1 : Hid _ := hc1
  have HB1 : Hid _ := hb1
  have hx3 : x ≤ 3 := by omega
  clear hc1 hb1 hx1
  go_wp2_with fail
  go_loopw [3, 4] (fun v t w' => ∃ (s : ByteArray) (i : Nat), v = .string s ∧ t = .int .i64 i ∧ i ≤ 3 ∧ s.size + 4 * i ≤ 12 ∧ Hid (CurAt w' cb a len cap) ∧ Hid (ButFor cb w w')) (fun _ t _ => (intOf t).toNat)
  case atStart =>
    obtain ⟨i, rfl⟩ : ∃ i : Nat, x = i := ⟨x.toNat, by omega⟩
    exact ⟨⟨#[]⟩, i, rfl, rfl, by omega, by show 0 + 4 * i ≤ 12; omega, HC1, HB1⟩
  case round =>
    obtain ⟨s, i, rfl, rfl, hi, hsz, hc, hb⟩ := hrel
    by_cases hlt : 0 < i
    · have hlt' : (0 : Int) < i := by omega
      go_wp2_with fail
      refine (text_list _ _ _ _ _ hc.out).mono ?_
      rintro e w2 ⟨u, hu, rfl, hc2, hb2⟩
      have hus := textL_size u hu
      have HC2 : Hid _ := hc2
      have HB2 : Hid _ := hb.out.trans hb2
      clear hu hc2 hb2
      go_wp2
      go_roundw
      case rel => exact ⟨s ++ u, i - 1, rfl, by go_num, by omega, by rw [ByteArray.size_append]; omega, HC2, HB2⟩
      case measure => simp [intOf]; omega
    · have hlt' : ¬ (0 : Int) < i := by omega
      go_wp2_with fail
      refine (once_any _ _ _ _ _ _ (by omega) hc).mono ?_
      rintro e w2 ⟨q, rfl, hc2, hb2⟩
      have HC2 : Hid _ := hc2
      have HB2 : Hid _ := hb.out.trans hb2
      clear hc2 hb2 hc hb
      cases q
      · go_wp2
        go_ret
        exact text_end (by omega) HC2.out HB2.out
      · go_wp2_with fail
        go_loopw [3] (fun v w' => ∃ s : ByteArray, v = .string s ∧ s.size ≤ 601 ∧ Hid (CurAt w' cb a len cap) ∧ Hid (ButFor cb w w')) (fun v _ => 700 - szOf v)
        case atStart => exact ⟨s, rfl, by omega, HC2, HB2⟩
        case round =>
          obtain ⟨s2, rfl, hs2, hc3, hb3⟩ := hrel
          go_wp2_with fail
          refine (long_list _ _ _ _ _ hc3.out).mono ?_
          rintro e w3 ⟨z, hz, rfl, hc4, hb4⟩
          have hz6 : z ≤ 601 := by simp at hz; omega
          have HC4 : Hid _ := hc4
          have HB4 : Hid _ := hb3.out.trans hb4
          clear hz hc4 hb4 hc3 hb3
          by_cases hlz : (s2.size : Int) < z
          · go_wp2
            go_roundw
            case rel => exact ⟨s2 ++ ⟨#[120]⟩, rfl, by rw [ByteArray.size_append]; show s2.size + 1 ≤ 601; omega, HC4, HB4⟩
            case measure => show 700 - (s2 ++ (⟨#[120]⟩ : ByteArray)).size < 700 - s2.size; rw [ByteArray.size_append]; show 700 - (s2.size + 1) < 700 - s2.size; omega
          · go_wp2
            go_ret
            exact text_end (by omega) HC4.out HB4.out
end Go.Proofs.YtdojkaboejndiaaGreatDoor.draws
