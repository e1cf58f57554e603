/-
  The draw of line ends: it returns some text, whatever the bytes are.
-/
import Derived.Test.YtdojkaboejndiaaDoorDraw2
namespace Go.Proofs.YtdojkaboejndiaaDoor.draws
open Go.ChangeShapes Go.WideShapes Go.ChangeAt Go.RowKit
set_option linter.unusedVariables false
theorem underN {w w1 w2 : World} {cb : Nat} (h : Below w.heap.size w w1) (hcb : cb = w.heap.size) (hc : cb < w1.heap.size) (hb : ButFor cb w1 w2) : Below w.heap.size w w2 :=
  h.trans (hb.below (by omega) (by omega))
def normL : List ByteArray := [⟨#[97]⟩, ⟨#[13]⟩, ⟨#[10]⟩, ⟨#[13, 10]⟩, ⟨#[13, 13]⟩, ⟨#[98]⟩]
theorem normL_size : ∀ s ∈ normL, s.size ≤ 2 := by
  intro s hs
  simp only [normL, List.mem_cons, List.mem_nil_iff, or_false] at hs
  rcases hs with rfl | rfl | rfl | rfl | rfl | rfl <;> decide
theorem norm_list (w : World) (cb len cap : Nat) (a : Option Addr) (hc : CurAt w cb a len cap) :
    Calls Tryd.prog 19 #[.pointer (some ⟨cb, 0, none⟩), .slice (some ⟨w.heap.size, 0, none⟩) 6 6] (w.alloc (.cells #[.string ⟨#[97]⟩, .string ⟨#[13]⟩, .string ⟨#[10]⟩, .string ⟨#[13, 10]⟩, .string ⟨#[13, 13]⟩, .string ⟨#[98]⟩] 9)) fun e w' => ∃ s, s ∈ normL ∧ e = .returned (.string s) ∧ CurAt w' cb a len cap ∧ ButFor cb w w' :=
  str_new w cb len cap 6 6 a normL _ 9 rfl rfl (by decide) (by decide) hc
theorem norm_ret {w w' : World} {s : ByteArray} (hs : s.size ≤ 10) (hb : Below w.heap.size w w') : ∃ s' : ByteArray, Ending.returned (.string s) = .returned (.string s') ∧ s'.size ≤ 10 ∧ Below w.heap.size w w' := ⟨s, rfl, hs, hb⟩
set_option maxRecDepth 100000 in
set_option maxHeartbeats 2000000 in
theorem drawNorm (w : World) (len cap : Nat) (a : Option Addr) (hz : len ≤ 1048576) (hr : Hid (RowAt w a len)) : Calls Tryd.prog 7 #[.slice a len cap] w fun e w' => ∃ s : ByteArray, e = .returned (.string s) ∧ s.size ≤ 10 ∧ Below w.heap.size w w' := by
  go_enter Tryd.func7, Tryd.ntmps7
  go_wp2_with fail
  refine (new_any _ _ _ _ hz hr).mono ?_
  rintro e w1 ⟨cb, rfl, hcb, hc1, hb1⟩
  have HC1 : Hid _ := hc1
  have HB1 : Hid _ := hb1
  have HCB : Hid _ := hcb
  clear hc1 hb1 hcb hr
  go_wp2_with fail
  refine (below_any _ _ _ _ _ _ (by omega) HC1.out).mono ?_
  rintro e w2 ⟨x, rfl, hx0, hx1, hc2, hb2⟩
  have HC2 : Hid _ := hc2
  have HBB2 : Hid _ := hb2
  have hx3 : x ≤ 5 := by omega
  clear hc2 hb2 hx1
  go_wp2_with fail
  go_loopw [4, 5] (fun v t w' => ∃ (s : ByteArray) (i : Nat), v = .string s ∧ t = .int .i64 i ∧ i ≤ 5 ∧ s.size + 2 * i ≤ 10 ∧ Hid (CurAt w' cb a len cap) ∧ Hid (ButFor cb w1 w')) (fun _ t _ => (intOf t).toNat)
  case atStart =>
    obtain ⟨i, rfl⟩ : ∃ i : Nat, x = i := ⟨x.toNat, by omega⟩
    exact ⟨⟨#[]⟩, i, rfl, rfl, by omega, by show 0 + 2 * i ≤ 10; omega, HC2, HBB2⟩
  case round =>
    obtain ⟨s, i, rfl, rfl, hi, hsz, hc, hb⟩ := hrel
    by_cases hlt : 0 < i
    · have hlt' : (0 : Int) < i := by omega
      go_wp2_with fail
      refine (norm_list _ _ _ _ _ hc.out).mono ?_
      rintro e w3 ⟨u, hu, rfl, hc3, hb3⟩
      have hus := normL_size u hu
      have HC3 : Hid _ := hc3
      have HB3 : Hid _ := hb.out.trans hb3
      clear hu hc3 hb3
      go_wp2
      go_roundw
      case rel => exact ⟨s ++ u, i - 1, rfl, by go_num, by omega, by rw [ByteArray.size_append]; omega, HC3, HB3⟩
      case measure => simp [intOf]; omega
    · have hlt' : ¬ (0 : Int) < i := by omega
      go_wp2
      go_ret
      exact norm_ret (by omega) (underN HB1.out HCB.out HC1.out.here hb.out)
end Go.Proofs.YtdojkaboejndiaaDoor.draws
