/-
  The draws of chapter 1: each returns something, whatever the bytes are.
-/
import Derived.Test.YtlkolhfhcicpdaaDoorBend
import Derived.OpenShut
namespace Go.Proofs.YtlkolhfhcicpdaaDoor.draws
open Go.ChangeShapes Go.WideShapes Go.ChangeAt Go.RowKit
set_option linter.unusedVariables false

theorem int_ret {w w' : World} {z : Int} (hb : Below w.heap.size w w') : ∃ z' : Int, Ending.returned (.int .i64 z) = .returned (.int .i64 z') ∧ Below w.heap.size w w' := ⟨z, rfl, hb⟩
theorem cur_below {w w1 w2 : World} {cb : Nat} (h : Below w.heap.size w w1) (hcb : cb = w.heap.size) (hc : cb < w1.heap.size) (hb : ButFor cb w1 w2) : Below w.heap.size w w2 :=
  h.trans (hb.below (by omega) (by omega))
set_option maxRecDepth 100000 in
set_option maxHeartbeats 1000000 in
theorem drawIsPart (w : World) (len cap : Nat) (a : Option Addr) (hz : len ≤ 1048576) (hr : Hid (RowAt w a len)) : Calls Tryd.prog 5 #[.slice a len cap] w fun e w' => ∃ n : Int, e = .returned (.int .i64 n) ∧ Below w.heap.size w w' := by
  go_enter Tryd.func5, Tryd.ntmps5
  go_wp2_with fail
  refine (new_any _ _ _ _ hz hr).mono ?_
  rintro e w1 ⟨cb, rfl, hcb, hc1, hb1⟩
  have HC1 : Hid _ := hc1
  have HB1 : Hid _ := hb1
  have HCB : Hid _ := hcb
  clear hc1 hb1 hcb hr
  go_wp2_with fail
  refine (once_any _ _ _ _ _ _ (by decide) HC1).mono ?_
  rintro e w2 ⟨b, rfl, hc2, hb2⟩
  have HC2 : Hid _ := hc2
  have HB2 : Hid _ := cur_below HB1.out HCB.out HC1.out.here hb2
  have HN2 : Hid _ := hc2.here
  clear hc2
  have HBB2 : Hid _ := hb2
  clear hb2
  cases b
  · go_wp2_with fail
    refine (below_any _ _ _ _ _ _ (by decide) HC2.out).mono ?_
    rintro e w3 ⟨x, rfl, hx0, hx1, hc3, hb3⟩
    have HB3 : Hid _ := cur_below HB1.out HCB.out HC1.out.here (HBB2.out.trans hb3)
    clear hc3 hb3 hx1
    go_wp2
    go_ret
    exact int_ret HB3.out
  · go_wp2_with fail
    refine (num_any _ _ _ _ _ HC2).mono ?_
    rintro e w3 ⟨x, rfl, hc3, hb3⟩
    have HB3 : Hid _ := cur_below HB1.out HCB.out HC1.out.here (HBB2.out.trans hb3)
    clear hc3 hb3
    go_wp2
    go_ret
    exact int_ret HB3.out
set_option maxRecDepth 100000 in
set_option maxHeartbeats 1000000 in
theorem drawIsStart (w : World) (len cap : Nat) (a : Option Addr) (hz : len ≤ 1048576) (hr : Hid (RowAt w a len)) : Calls Tryd.prog 6 #[.slice a len cap] w fun e w' => ∃ n : Int, e = .returned (.int .i64 n) ∧ Below w.heap.size w w' := by
  go_enter Tryd.func6, Tryd.ntmps6
  go_wp2_with fail
  refine (new_any _ _ _ _ hz hr).mono ?_
  rintro e w1 ⟨cb, rfl, hcb, hc1, hb1⟩
  have HC1 : Hid _ := hc1
  have HB1 : Hid _ := hb1
  have HCB : Hid _ := hcb
  clear hc1 hb1 hcb hr
  go_wp2_with fail
  refine (once_any _ _ _ _ _ _ (by decide) HC1).mono ?_
  rintro e w2 ⟨b, rfl, hc2, hb2⟩
  have HC2 : Hid _ := hc2
  have HB2 : Hid _ := cur_below HB1.out HCB.out HC1.out.here hb2
  have HN2 : Hid _ := hc2.here
  clear hc2
  have HBB2 : Hid _ := hb2
  clear hb2
  cases b
  · go_wp2_with fail
    refine (below_any _ _ _ _ _ _ (by decide) HC2.out).mono ?_
    rintro e w3 ⟨x, rfl, hx0, hx1, hc3, hb3⟩
    have HB3 : Hid _ := cur_below HB1.out HCB.out HC1.out.here (HBB2.out.trans hb3)
    clear hc3 hb3 hx1
    go_wp2
    go_ret
    exact int_ret HB3.out
  · go_wp2_with fail
    refine (num_any _ _ _ _ _ HC2).mono ?_
    rintro e w3 ⟨x, rfl, hc3, hb3⟩
    have HB3 : Hid _ := cur_below HB1.out HCB.out HC1.out.here (HBB2.out.trans hb3)
    clear hc3 hb3
    go_wp2
    go_ret
    exact int_ret HB3.out
set_option maxRecDepth 100000 in
set_option maxHeartbeats 1000000 in
theorem drawIsSign (w : World) (len cap : Nat) (a : Option Addr) (hz : len ≤ 1048576) (hr : Hid (RowAt w a len)) : Calls Tryd.prog 7 #[.slice a len cap] w fun e w' => ∃ n : Int, e = .returned (.int .i64 n) ∧ Below w.heap.size w w' := by
  go_enter Tryd.func7, Tryd.ntmps7
  go_wp2_with fail
  refine (new_any _ _ _ _ hz hr).mono ?_
  rintro e w1 ⟨cb, rfl, hcb, hc1, hb1⟩
  have HC1 : Hid _ := hc1
  have HB1 : Hid _ := hb1
  have HCB : Hid _ := hcb
  clear hc1 hb1 hcb hr
  go_wp2_with fail
  refine (num_any _ _ _ _ _ HC1).mono ?_
  rintro e w3 ⟨x, rfl, hc3, hb3⟩
  have HB3 : Hid _ := cur_below HB1.out HCB.out HC1.out.here hb3
  clear hc3 hb3
  go_wp2
  go_ret
  exact int_ret HB3.out
theorem str_ret {w w' : World} {s : ByteArray} (hs : s.size ≤ 800) (hb : Below w.heap.size w w') : ∃ s' : ByteArray, Ending.returned (.string s) = .returned (.string s') ∧ s'.size ≤ 800 ∧ Below w.heap.size w w' := ⟨s, rfl, hs, hb⟩
set_option maxRecDepth 100000 in
set_option maxHeartbeats 1000000 in
theorem drawTextOk (w : World) (len cap : Nat) (a : Option Addr) (hz : len ≤ 1048576) (hr : Hid (RowAt w a len)) : Calls Tryd.prog 8 #[.slice a len cap] w fun e w' => ∃ s : ByteArray, e = .returned (.string s) ∧ s.size ≤ 800 ∧ Below w.heap.size w w' := by
  go_enter Tryd.func8, Tryd.ntmps8
  go_wp2_with fail
  refine (new_any _ _ _ _ hz hr).mono ?_
  rintro e w1 ⟨cb, rfl, hcb, hc1, hb1⟩
  have HC1 : Hid _ := hc1
  have HB1 : Hid _ := hb1
  have HCB : Hid _ := hcb
  clear hc1 hb1 hcb hr
  go_wp2_with fail
  refine (text_any _ _ _ _ _ HC1).mono ?_
  rintro e w2 ⟨s, rfl, hs, hc2, hb2⟩
  have HC2 : Hid _ := hc2
  have HBB2 : Hid _ := hb2
  clear hc2 hb2
  go_wp2_with fail
  refine (bend_any _ _ _ _ _ _ hs HC2.out).mono ?_
  rintro e w3 ⟨s3, rfl, hs3, hc3, hb3⟩
  have HB3 : Hid _ := cur_below HB1.out HCB.out HC1.out.here (HBB2.out.trans hb3)
  clear hc3 hb3
  go_wp2
  go_ret
  exact str_ret hs3 HB3.out
def blankL : List ByteArray := [⟨#[]⟩, ⟨#[32]⟩, ⟨#[10, 9, 13, 32]⟩, ⟨#[32, 97]⟩, ⟨#[97]⟩, ⟨#[194, 160]⟩, ⟨#[32, 32, 10]⟩]
theorem blankL_size : ∀ s ∈ blankL, s.size ≤ 4 := by
  intro s hs
  simp only [blankL, List.mem_cons, List.mem_nil_iff, or_false] at hs
  rcases hs with rfl | rfl | rfl | rfl | rfl | rfl | rfl <;> decide
theorem blank_list (w : World) (cb len cap : Nat) (a : Option Addr) (hc : CurAt w cb a len cap) :
    Calls Tryd.prog 29 #[.pointer (some ⟨cb, 0, none⟩), .slice (some ⟨w.heap.size, 0, none⟩) 7 7] (w.alloc (.cells #[.string ⟨#[]⟩, .string ⟨#[32]⟩, .string ⟨#[10, 9, 13, 32]⟩, .string ⟨#[32, 97]⟩, .string ⟨#[97]⟩, .string ⟨#[194, 160]⟩, .string ⟨#[32, 32, 10]⟩] 9)) fun e w' => ∃ s, s ∈ blankL ∧ e = .returned (.string s) ∧ CurAt w' cb a len cap ∧ ButFor cb w w' :=
  str_new w cb len cap 7 7 a blankL _ 9 rfl rfl (by decide) (by decide) hc
set_option maxRecDepth 100000 in
set_option maxHeartbeats 1000000 in
theorem drawAllBlank (w : World) (len cap : Nat) (a : Option Addr) (hz : len ≤ 1048576) (hr : Hid (RowAt w a len)) : Calls Tryd.prog 9 #[.slice a len cap] w fun e w' => ∃ s : ByteArray, e = .returned (.string s) ∧ s.size ≤ 800 ∧ Below w.heap.size w w' := by
  go_enter Tryd.func9, Tryd.ntmps9
  go_wp2_with fail
  refine (new_any _ _ _ _ hz hr).mono ?_
  rintro e w1 ⟨cb, rfl, hcb, hc1, hb1⟩
  have HC1 : Hid _ := hc1
  have HB1 : Hid _ := hb1
  have HCB : Hid _ := hcb
  clear hc1 hb1 hcb hr
  go_wp2_with fail
  refine (blank_list _ _ _ _ _ HC1.out).mono ?_
  rintro e w3 ⟨s3, hs3, rfl, hc3, hb3⟩
  have hsz := blankL_size s3 hs3
  have HB3 : Hid _ := cur_below HB1.out HCB.out HC1.out.here hb3
  clear hc3 hb3 hs3
  go_wp2
  go_ret
  exact str_ret (by omega) HB3.out
/-- A slice of bytes that came in, as the law's frame tells it. -/
theorem rowAt_of {w : World} {a : Option Addr} {len cap : Nat} {zs : List Int}
    (h : (a = none ∧ len = 0 ∧ cap = 0 ∧ zs = []) ∨ ∃ x, a = some x ∧ len ≤ cap ∧ cap ≤ maxLen ∧ zs.length = cap ∧ (∀ i, i < zs.length → w.cell? (x.add i) = some (.int .u8 (zs.getD i 0))) ∧ ∀ n ∈ zs, (Lit.int .u8 n).wf = true) : RowAt w a len := by
  rcases h with ⟨rfl, rfl, rfl, rfl⟩ | ⟨x, rfl, hl, hm, hz, hcell, hwz⟩
  · exact ⟨Nat.zero_le _, fun h => by omega⟩
  · refine ⟨Nat.le_trans hl hm, fun h0 => ?_⟩
    obtain ⟨b, off, spot⟩ := x
    have hc := hcell 0 (by omega)
    have hspot : spot = none := by simpa [Addr.add] using World.cell?_spot hc
    subst hspot
    have hpl : ∀ i, (⟨b, off, none⟩ : Addr).add i = ⟨b, off + i, none⟩ := fun i => Addr.add_lit _ _ _
    refine ⟨b, off, rfl, ?_, fun j hj => ⟨zs.getD j 0, by rw [← hpl]; exact hcell j (by omega), ?_⟩⟩
    · rcases Nat.lt_or_ge b w.heap.size with h1 | h1
      · exact h1
      · simp [World.cell?, Addr.add, Array.getElem?_eq_none h1] at hc
    · have hmem : zs.getD j 0 ∈ zs := by
        have hj' : j < zs.length := by omega
        simp [List.getD, List.getElem?_eq_getElem hj']
      exact bounds_u8 (hwz _ hmem)
end Go.Proofs.YtlkolhfhcicpdaaDoor.draws
