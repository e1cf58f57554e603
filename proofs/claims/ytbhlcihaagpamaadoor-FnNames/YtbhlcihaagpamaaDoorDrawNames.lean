/-
  The draws of chapter 2: each returns some texts, whatever the bytes are.
-/
import Derived.Test.YtbhlcihaagpamaaDoorDraw2
namespace Go.Proofs.YtbhlcihaagpamaaDoor.draws
open Go.ChangeShapes Go.WideShapes Go.ChangeAt Go.RowKit
set_option linter.unusedVariables false

theorem under_cur {w w1 w2 : World} {cb : Nat} (h : Below w.heap.size w w1) (hcb : cb = w.heap.size) (hc : cb < w1.heap.size) (hb : ButFor cb w1 w2) : Below w.heap.size w w2 :=
  h.trans (hb.below (by omega) (by omega))
def nameL : List ByteArray := [⟨#[97]⟩, ⟨#[98]⟩, ⟨#[99]⟩, ⟨#[105, 116, 101, 109]⟩, ⟨#[112, 58, 97]⟩, ⟨#[113, 58, 98]⟩, ⟨#[112, 58, 120]⟩, ⟨#[105, 100]⟩]
theorem nameL_size : ∀ s ∈ nameL, s.size ≤ 4 := by
  intro s hs
  simp only [nameL, List.mem_cons, List.mem_nil_iff, or_false] at hs
  rcases hs with rfl | rfl | rfl | rfl | rfl | rfl | rfl | rfl <;> decide
theorem name_list (w : World) (cb len cap : Nat) (a : Option Addr) (hc : CurAt w cb a len cap) :
    Calls Tryd.prog 23 #[.pointer (some ⟨cb, 0, none⟩), .slice (some ⟨w.heap.size, 0, none⟩) 8 8] (w.alloc (.cells #[.string ⟨#[97]⟩, .string ⟨#[98]⟩, .string ⟨#[99]⟩, .string ⟨#[105, 116, 101, 109]⟩, .string ⟨#[112, 58, 97]⟩, .string ⟨#[113, 58, 98]⟩, .string ⟨#[112, 58, 120]⟩, .string ⟨#[105, 100]⟩] 9)) fun e w' => ∃ s, s ∈ nameL ∧ e = .returned (.string s) ∧ CurAt w' cb a len cap ∧ ButFor cb w w' :=
  str_new w cb len cap 8 8 a nameL _ 9 rfl rfl (by decide) (by decide) hc
def anyL : List ByteArray := [⟨#[]⟩, ⟨#[195, 169, 116, 195, 169]⟩, ⟨#[45, 97]⟩, ⟨#[97, 45, 98, 46, 99]⟩, ⟨#[49, 97]⟩, ⟨#[97, 49]⟩, ⟨#[97, 58, 98, 58, 99]⟩, ⟨#[58, 97]⟩, ⟨#[97, 58]⟩, ⟨#[97, 32, 98]⟩, ⟨#[115, 105, 120, 116, 101, 101, 110, 108, 101, 116, 116, 101, 114, 115, 95, 120]⟩, ⟨#[115, 101, 118, 101, 110, 116, 101, 101, 110, 108, 101, 116, 116, 101, 114, 115, 120]⟩, ⟨#[112, 58, 115, 105, 120, 116, 101, 101, 110, 108, 101, 116, 116, 101, 114, 115, 95, 120]⟩, ⟨#[255]⟩, ⟨#[95]⟩, ⟨#[97, 204, 128]⟩, ⟨#[204, 128]⟩, ⟨#[97, 47, 98]⟩]
theorem anyL_size : ∀ s ∈ anyL, s.size ≤ 18 := by
  intro s hs
  simp only [anyL, List.mem_cons, List.mem_nil_iff, or_false] at hs
  rcases hs with rfl | rfl | rfl | rfl | rfl | rfl | rfl | rfl | rfl | rfl | rfl | rfl | rfl | rfl | rfl | rfl | rfl | rfl <;> decide
theorem any_list (w : World) (cb len cap : Nat) (a : Option Addr) (hc : CurAt w cb a len cap) :
    Calls Tryd.prog 23 #[.pointer (some ⟨cb, 0, none⟩), .slice (some ⟨w.heap.size, 0, none⟩) 18 18] (w.alloc (.cells #[.string ⟨#[]⟩, .string ⟨#[195, 169, 116, 195, 169]⟩, .string ⟨#[45, 97]⟩, .string ⟨#[97, 45, 98, 46, 99]⟩, .string ⟨#[49, 97]⟩, .string ⟨#[97, 49]⟩, .string ⟨#[97, 58, 98, 58, 99]⟩, .string ⟨#[58, 97]⟩, .string ⟨#[97, 58]⟩, .string ⟨#[97, 32, 98]⟩, .string ⟨#[115, 105, 120, 116, 101, 101, 110, 108, 101, 116, 116, 101, 114, 115, 95, 120]⟩, .string ⟨#[115, 101, 118, 101, 110, 116, 101, 101, 110, 108, 101, 116, 116, 101, 114, 115, 120]⟩, .string ⟨#[112, 58, 115, 105, 120, 116, 101, 101, 110, 108, 101, 116, 116, 101, 114, 115, 95, 120]⟩, .string ⟨#[255]⟩, .string ⟨#[95]⟩, .string ⟨#[97, 204, 128]⟩, .string ⟨#[204, 128]⟩, .string ⟨#[97, 47, 98]⟩] 9)) fun e w' => ∃ s, s ∈ anyL ∧ e = .returned (.string s) ∧ CurAt w' cb a len cap ∧ ButFor cb w w' :=
  str_new w cb len cap 18 18 a anyL _ 9 rfl rfl (by decide) (by decide) hc
theorem s_end {w w' : World} {cb len cap : Nat} {a : Option Addr} {s : ByteArray} (hs : s.size ≤ 20) (hc : CurAt w' cb a len cap) (hb : ButFor cb w w') : ∃ s' : ByteArray, Ending.returned (.string s) = .returned (.string s') ∧ s'.size ≤ 20 ∧ CurAt w' cb a len cap ∧ ButFor cb w w' := ⟨s, rfl, hs, hc, hb⟩
set_option maxRecDepth 100000 in
set_option maxHeartbeats 1000000 in
theorem l2name (w : World) (cb len cap : Nat) (a : Option Addr) (HC : Hid (CurAt w cb a len cap)) : Calls Tryd.prog 35 #[.pointer (some ⟨cb, 0, none⟩)] w fun e w' => ∃ s : ByteArray, e = .returned (.string s) ∧ s.size ≤ 20 ∧ CurAt w' cb a len cap ∧ ButFor cb w w' := by
  go_enter Tryd.func35, Tryd.ntmps35
  go_wp2_with fail
  refine (name_list _ _ _ _ _ HC.out).mono ?_
  rintro e w1 ⟨s, hs, rfl, hc1, hb1⟩
  have hsz := nameL_size s hs
  have HC1 : Hid _ := hc1
  have HB1 : Hid _ := hb1
  clear hc1 hb1 hs
  go_wp2
  go_ret
  exact s_end (by omega) HC1.out HB1.out
set_option maxRecDepth 100000 in
set_option maxHeartbeats 1000000 in
theorem l2any (w : World) (cb len cap : Nat) (a : Option Addr) (HC : Hid (CurAt w cb a len cap)) : Calls Tryd.prog 21 #[.pointer (some ⟨cb, 0, none⟩)] w fun e w' => ∃ s : ByteArray, e = .returned (.string s) ∧ s.size ≤ 20 ∧ CurAt w' cb a len cap ∧ ButFor cb w w' := by
  go_enter Tryd.func21, Tryd.ntmps21
  go_wp2_with fail
  refine (once_any _ _ _ _ _ _ (by decide) HC).mono ?_
  rintro e w1 ⟨b, rfl, hc1, hb1⟩
  have HC1 : Hid _ := hc1
  have HB1 : Hid _ := hb1
  clear hc1 hb1
  cases b
  · go_wp2_with fail
    refine (any_list _ _ _ _ _ HC1.out).mono ?_
    rintro e w2 ⟨s, hs, rfl, hc2, hb2⟩
    have hsz := anyL_size s hs
    have HC2 : Hid _ := hc2
    have HB2 : Hid _ := HB1.out.trans hb2
    clear hc2 hb2 hs
    go_wp2
    go_ret
    exact s_end (by omega) HC2.out HB2.out
  · go_wp2_with fail
    refine (l2name _ _ _ _ _ HC1).mono ?_
    rintro e w2 ⟨s, rfl, hs, hc2, hb2⟩
    have HC2 : Hid _ := hc2
    have HB2 : Hid _ := HB1.out.trans hb2
    clear hc2 hb2
    go_wp2
    go_ret
    exact s_end hs HC2.out HB2.out
theorem one_ret {w w' : World} {s : ByteArray} (hs : s.size ≤ 40) (hb : Below w.heap.size w w') : ∃ s' : ByteArray, Ending.returned (.string s) = .returned (.string s') ∧ s'.size ≤ 40 ∧ Below w.heap.size w w' := ⟨s, rfl, hs, hb⟩
set_option maxRecDepth 100000 in
set_option maxHeartbeats 1000000 in
theorem drawSplitName (w : World) (len cap : Nat) (a : Option Addr) (hz : len ≤ 1048576) (hr : Hid (RowAt w a len)) : Calls Tryd.prog 9 #[.slice a len cap] w fun e w' => ∃ s : ByteArray, e = .returned (.string s) ∧ s.size ≤ 40 ∧ Below w.heap.size w w' := by
  go_enter Tryd.func9, Tryd.ntmps9
  go_wp2_with fail
  refine (new_any _ _ _ _ hz hr).mono ?_
  rintro e w1 ⟨cb, rfl, hcb, hc1, hb1⟩
  have HC1 : Hid _ := hc1
  have HB1 : Hid _ := hb1
  have HCB : Hid _ := hcb
  clear hc1 hb1 hcb hr
  go_wp2_with fail
  refine (l2any _ _ _ _ _ HC1).mono ?_
  rintro e w2 ⟨s, rfl, hs, hc2, hb2⟩
  have HB2 : Hid _ := under_cur HB1.out HCB.out HC1.out.here hb2
  clear hc2 hb2
  go_wp2
  go_ret
  exact one_ret (by omega) HB2.out
def preL : List ByteArray := [⟨#[]⟩, ⟨#[]⟩, ⟨#[112]⟩, ⟨#[113]⟩, ⟨#[49]⟩, ⟨#[97, 58, 98]⟩]
theorem preL_size : ∀ s ∈ preL, s.size ≤ 3 := by
  intro s hs
  simp only [preL, List.mem_cons, List.mem_nil_iff, or_false] at hs
  rcases hs with rfl | rfl | rfl | rfl | rfl | rfl <;> decide
theorem pre_list (w : World) (cb len cap : Nat) (a : Option Addr) (hc : CurAt w cb a len cap) :
    Calls Tryd.prog 23 #[.pointer (some ⟨cb, 0, none⟩), .slice (some ⟨w.heap.size, 0, none⟩) 6 6] (w.alloc (.cells #[.string ⟨#[]⟩, .string ⟨#[]⟩, .string ⟨#[112]⟩, .string ⟨#[113]⟩, .string ⟨#[49]⟩, .string ⟨#[97, 58, 98]⟩] 9)) fun e w' => ∃ s, s ∈ preL ∧ e = .returned (.string s) ∧ CurAt w' cb a len cap ∧ ButFor cb w w' :=
  str_new w cb len cap 6 6 a preL _ 9 rfl rfl (by decide) (by decide) hc
theorem two_ret {w w' : World} {s u : ByteArray} (hs : s.size ≤ 40) (hu : u.size ≤ 40) (hb : Below w.heap.size w w') : ∃ s' u' : ByteArray, Ending.returned (.tuple #[.string s, .string u]) = .returned (.tuple #[.string s', .string u']) ∧ s'.size ≤ 40 ∧ u'.size ≤ 40 ∧ Below w.heap.size w w' := ⟨s, u, rfl, hs, hu, hb⟩
set_option maxRecDepth 100000 in
set_option maxHeartbeats 1000000 in
theorem drawJoinName (w : World) (len cap : Nat) (a : Option Addr) (hz : len ≤ 1048576) (hr : Hid (RowAt w a len)) : Calls Tryd.prog 11 #[.slice a len cap] w fun e w' => ∃ s u : ByteArray, e = .returned (.tuple #[.string s, .string u]) ∧ s.size ≤ 40 ∧ u.size ≤ 40 ∧ Below w.heap.size w w' := by
  go_enter Tryd.func11, Tryd.ntmps11
  go_wp2_with fail
  refine (new_any _ _ _ _ hz hr).mono ?_
  rintro e w1 ⟨cb, rfl, hcb, hc1, hb1⟩
  have HC1 : Hid _ := hc1
  have HB1 : Hid _ := hb1
  have HCB : Hid _ := hcb
  clear hc1 hb1 hcb hr
  go_wp2_with fail
  refine (pre_list _ _ _ _ _ HC1.out).mono ?_
  rintro e w2 ⟨s, hs, rfl, hc2, hb2⟩
  have hsz := preL_size s hs
  have HC2 : Hid _ := hc2
  have HBB2 : Hid _ := hb2
  clear hc2 hb2 hs
  go_wp2_with fail
  refine (l2any _ _ _ _ _ HC2).mono ?_
  rintro e w3 ⟨u, rfl, hu, hc3, hb3⟩
  have HB3 : Hid _ := under_cur HB1.out HCB.out HC1.out.here (HBB2.out.trans hb3)
  clear hc3 hb3
  go_wp2
  go_ret2
  exact two_ret (by omega) (by omega) HB3.out
def tailL : List ByteArray := [⟨#[]⟩, ⟨#[61]⟩, ⟨#[32, 120]⟩, ⟨#[62]⟩, ⟨#[47]⟩, ⟨#[255]⟩]
theorem tailL_size : ∀ s ∈ tailL, s.size ≤ 2 := by
  intro s hs
  simp only [tailL, List.mem_cons, List.mem_nil_iff, or_false] at hs
  rcases hs with rfl | rfl | rfl | rfl | rfl | rfl <;> decide
theorem tail_list (w : World) (cb len cap : Nat) (a : Option Addr) (hc : CurAt w cb a len cap) :
    Calls Tryd.prog 23 #[.pointer (some ⟨cb, 0, none⟩), .slice (some ⟨w.heap.size, 0, none⟩) 6 6] (w.alloc (.cells #[.string ⟨#[]⟩, .string ⟨#[61]⟩, .string ⟨#[32, 120]⟩, .string ⟨#[62]⟩, .string ⟨#[47]⟩, .string ⟨#[255]⟩] 9)) fun e w' => ∃ s, s ∈ tailL ∧ e = .returned (.string s) ∧ CurAt w' cb a len cap ∧ ButFor cb w w' :=
  str_new w cb len cap 6 6 a tailL _ 9 rfl rfl (by decide) (by decide) hc
theorem at_list (w : World) (cb len cap : Nat) (a : Option Addr) (hc : CurAt w cb a len cap) :
    Calls Tryd.prog 24 #[.pointer (some ⟨cb, 0, none⟩), .slice (some ⟨w.heap.size, 0, none⟩) 6 6] (w.alloc (.cells #[.int .i64 0, .int .i64 0, .int .i64 1, .int .i64 2, .int .i64 (-1), .int .i64 40] 3)) fun e w' => ∃ z, z ∈ [0, 0, 1, 2, -1, 40] ∧ e = .returned (.int .i64 z) ∧ CurAt w' cb a len cap ∧ ButFor cb w w' :=
  int_new w cb len cap 6 6 a [0, 0, 1, 2, -1, 40] _ 3 rfl rfl (by decide) (by decide) hc
theorem at_ret {w w' : World} {s : ByteArray} {z : Int} (hs : s.size ≤ 40) (hb : Below w.heap.size w w') : ∃ (s' : ByteArray) (z' : Int), Ending.returned (.tuple #[.string s, .int .i64 z]) = .returned (.tuple #[.string s', .int .i64 z']) ∧ s'.size ≤ 40 ∧ Below w.heap.size w w' := ⟨s, z, rfl, hs, hb⟩
set_option maxRecDepth 100000 in
set_option maxHeartbeats 1000000 in
theorem drawNameAt (w : World) (len cap : Nat) (a : Option Addr) (hz : len ≤ 1048576) (hr : Hid (RowAt w a len)) : Calls Tryd.prog 13 #[.slice a len cap] w fun e w' => ∃ (s : ByteArray) (z : Int), e = .returned (.tuple #[.string s, .int .i64 z]) ∧ s.size ≤ 40 ∧ Below w.heap.size w w' := by
  go_enter Tryd.func13, Tryd.ntmps13
  go_wp2_with fail
  refine (new_any _ _ _ _ hz hr).mono ?_
  rintro e w1 ⟨cb, rfl, hcb, hc1, hb1⟩
  have HC1 : Hid _ := hc1
  have HB1 : Hid _ := hb1
  have HCB : Hid _ := hcb
  clear hc1 hb1 hcb hr
  go_wp2_with fail
  refine (l2any _ _ _ _ _ HC1).mono ?_
  rintro e w2 ⟨s, rfl, hs, hc2, hb2⟩
  have HC2 : Hid _ := hc2
  have HBB2 : Hid _ := hb2
  clear hc2 hb2
  go_wp2_with fail
  refine (tail_list _ _ _ _ _ HC2.out).mono ?_
  rintro e w3 ⟨u, hu, rfl, hc3, hb3⟩
  have husz := tailL_size u hu
  have HC3 : Hid _ := hc3
  have HBB3 : Hid _ := HBB2.out.trans hb3
  clear hc3 hb3 hu
  go_wp2_with fail
  refine (at_list _ _ _ _ _ HC3.out).mono ?_
  rintro e w4 ⟨z, hz4, rfl, hc4, hb4⟩
  have HB4 : Hid _ := under_cur HB1.out HCB.out HC1.out.here (HBB3.out.trans hb4)
  clear hc4 hb4 hz4
  go_wp2
  go_ret2
  exact at_ret (by rw [ByteArray.size_append]; omega) HB4.out
end Go.Proofs.YtbhlcihaagpamaaDoor.draws
