/-
  The program's chains of tests, given what it calls. (Written by tools/chain.py.)
-/
import Derived.Test.YtmiiilamjbhheaaGreatDoorImplShape
import Derived.Handy
namespace Go.Proofs.YtmiiilamjbhheaaGreatDoor.trees
open Go.ChangeShapes Go.WideShapes Go.ChangeAt Go.RowKit
open pairs (Pair at0 PairsAt)
open scopes (ret_bool)
set_option linter.unusedVariables false
theorem cells1 {w : World} {b : Nat} {t : TypeId} {c0 : Value} (h : w.heap[b]? = some (.cells #[c0] t (0, 0))) : w.cell? ⟨b, 0, none⟩ = some c0 := by simp [World.cell?, h]
theorem cells2 {w : World} {b : Nat} {t : TypeId} {c0 c1 : Value} (h : w.heap[b]? = some (.cells #[c0, c1] t (0, 0))) : w.cell? ⟨b, 0, none⟩ = some c0 ∧ w.cell? ⟨b, 1, none⟩ = some c1 := by simp [World.cell?, h]
theorem cells4 {w : World} {b : Nat} {t : TypeId} {c0 c1 c2 c3 : Value} (h : w.heap[b]? = some (.cells #[c0, c1, c2, c3] t (0, 0))) : w.cell? ⟨b, 0, none⟩ = some c0 ∧ w.cell? ⟨b, 1, none⟩ = some c1 ∧ w.cell? ⟨b, 2, none⟩ = some c2 ∧ w.cell? ⟨b, 3, none⟩ = some c3 := by simp [World.cell?, h]
theorem cells6 {w : World} {b : Nat} {t : TypeId} {c0 c1 c2 c3 c4 c5 : Value} (h : w.heap[b]? = some (.cells #[c0, c1, c2, c3, c4, c5] t (0, 0))) : w.cell? ⟨b, 0, none⟩ = some c0 ∧ w.cell? ⟨b, 1, none⟩ = some c1 ∧ w.cell? ⟨b, 2, none⟩ = some c2 ∧ w.cell? ⟨b, 3, none⟩ = some c3 ∧ w.cell? ⟨b, 4, none⟩ = some c4 ∧ w.cell? ⟨b, 5, none⟩ = some c5 := by simp [World.cell?, h]
set_option maxRecDepth 100000 in
set_option maxHeartbeats 4000000 in
theorem element_ok (p l u : ByteArray) (da aa ka : Option Addr) (nd dc na ac nk kc : Nat) (b1 b2 b3 b4 b5 : Bool) (w : World)
    (H1 : ∀ W, Below w.heap.size w W → Calls Tryz.prog 98 #[.agg #[.string p, .string u]] W fun e w' => e = .returned (.bool b1) ∧ Below W.heap.size W w')
    (H2 : ∀ W, Below w.heap.size w W → Calls Tryz.prog 91 #[.string l] W fun e w' => e = .returned (.bool b2) ∧ Below W.heap.size W w')
    (H3 : ∀ W, Below w.heap.size w W → Calls Tryz.prog 99 #[.slice da nd dc] W fun e w' => e = .returned (.bool b3) ∧ Below W.heap.size W w')
    (H4 : ∀ W, Below w.heap.size w W → Calls Tryz.prog 100 #[.slice aa na ac] W fun e w' => e = .returned (.bool b4) ∧ Below W.heap.size W w')
    (H5 : ∀ W, Below w.heap.size w W → Calls Tryz.prog 101 #[.slice ka nk kc] W fun e w' => e = .returned (.bool b5) ∧ Below W.heap.size W w')
    : Calls Tryz.prog 87 #[.agg #[.string p, .string l, .string u, .slice da nd dc, .slice aa na ac, .slice ka nk kc]] w fun e w' => e = .returned (.bool (b1 && (b2 && (b3 && (b4 && !b5))))) ∧ Below w.heap.size w w' := by
  have HH1 : Hid (∀ W, Below w.heap.size w W → _) := H1
  have HH2 : Hid (∀ W, Below w.heap.size w W → _) := H2
  have HH3 : Hid (∀ W, Below w.heap.size w W → _) := H3
  have HH4 : Hid (∀ W, Below w.heap.size w W → _) := H4
  have HH5 : Hid (∀ W, Below w.heap.size w W → _) := H5
  clear H1 H2 H3 H4 H5
  cases b1
  ·
    go_enter Tryz.func87, Tryz.ntmps87
    go_wp2_with fail
    refine (HH1.out _ ((Below.refl _ _).alloc (Nat.le_refl _) _)).mono ?_
    rintro e w1 ⟨rfl, hb⟩
    have HB1 : Hid (Below w.heap.size w w1) := box_under hb
    have HX1 : Hid _ := box_kept hb
    clear hb
    obtain ⟨c0, c1, c2, c3, c4, c5⟩ := cells6 HX1.out
    go_wp2
    go_ret
    exact ⟨rfl, HB1.out⟩
  ·
    cases b2
    ·
      go_enter Tryz.func87, Tryz.ntmps87
      go_wp2_with fail
      refine (HH1.out _ ((Below.refl _ _).alloc (Nat.le_refl _) _)).mono ?_
      rintro e w1 ⟨rfl, hb⟩
      have HB1 : Hid (Below w.heap.size w w1) := box_under hb
      have HX1 : Hid _ := box_kept hb
      clear hb
      obtain ⟨c0, c1, c2, c3, c4, c5⟩ := cells6 HX1.out
      go_wp2_with fail
      refine (HH2.out _ HB1.out).mono ?_
      rintro e w2 ⟨rfl, hb⟩
      have HB2 : Hid (Below w.heap.size w w2) := HB1.out.trans (hb.mono HB1.out.size)
      have HX2 : Hid _ := (hb.block _ (pairs.lt_heap HX1.out)).trans HX1.out
      clear hb HX1 c0 c1 c2 c3 c4 c5
      obtain ⟨c0, c1, c2, c3, c4, c5⟩ := cells6 HX2.out
      go_wp2
      go_ret
      exact ⟨rfl, HB2.out⟩
    ·
      cases b3
      ·
        go_enter Tryz.func87, Tryz.ntmps87
        go_wp2_with fail
        refine (HH1.out _ ((Below.refl _ _).alloc (Nat.le_refl _) _)).mono ?_
        rintro e w1 ⟨rfl, hb⟩
        have HB1 : Hid (Below w.heap.size w w1) := box_under hb
        have HX1 : Hid _ := box_kept hb
        clear hb
        obtain ⟨c0, c1, c2, c3, c4, c5⟩ := cells6 HX1.out
        go_wp2_with fail
        refine (HH2.out _ HB1.out).mono ?_
        rintro e w2 ⟨rfl, hb⟩
        have HB2 : Hid (Below w.heap.size w w2) := HB1.out.trans (hb.mono HB1.out.size)
        have HX2 : Hid _ := (hb.block _ (pairs.lt_heap HX1.out)).trans HX1.out
        clear hb HX1 c0 c1 c2 c3 c4 c5
        obtain ⟨c0, c1, c2, c3, c4, c5⟩ := cells6 HX2.out
        go_wp2_with fail
        refine (HH3.out _ HB2.out).mono ?_
        rintro e w3 ⟨rfl, hb⟩
        have HB3 : Hid (Below w.heap.size w w3) := HB2.out.trans (hb.mono HB2.out.size)
        have HX3 : Hid _ := (hb.block _ (pairs.lt_heap HX2.out)).trans HX2.out
        clear hb HX2 c0 c1 c2 c3 c4 c5
        obtain ⟨c0, c1, c2, c3, c4, c5⟩ := cells6 HX3.out
        go_wp2
        go_ret
        exact ⟨rfl, HB3.out⟩
      ·
        cases b4
        ·
          go_enter Tryz.func87, Tryz.ntmps87
          go_wp2_with fail
          refine (HH1.out _ ((Below.refl _ _).alloc (Nat.le_refl _) _)).mono ?_
          rintro e w1 ⟨rfl, hb⟩
          have HB1 : Hid (Below w.heap.size w w1) := box_under hb
          have HX1 : Hid _ := box_kept hb
          clear hb
          obtain ⟨c0, c1, c2, c3, c4, c5⟩ := cells6 HX1.out
          go_wp2_with fail
          refine (HH2.out _ HB1.out).mono ?_
          rintro e w2 ⟨rfl, hb⟩
          have HB2 : Hid (Below w.heap.size w w2) := HB1.out.trans (hb.mono HB1.out.size)
          have HX2 : Hid _ := (hb.block _ (pairs.lt_heap HX1.out)).trans HX1.out
          clear hb HX1 c0 c1 c2 c3 c4 c5
          obtain ⟨c0, c1, c2, c3, c4, c5⟩ := cells6 HX2.out
          go_wp2_with fail
          refine (HH3.out _ HB2.out).mono ?_
          rintro e w3 ⟨rfl, hb⟩
          have HB3 : Hid (Below w.heap.size w w3) := HB2.out.trans (hb.mono HB2.out.size)
          have HX3 : Hid _ := (hb.block _ (pairs.lt_heap HX2.out)).trans HX2.out
          clear hb HX2 c0 c1 c2 c3 c4 c5
          obtain ⟨c0, c1, c2, c3, c4, c5⟩ := cells6 HX3.out
          go_wp2_with fail
          refine (HH4.out _ HB3.out).mono ?_
          rintro e w4 ⟨rfl, hb⟩
          have HB4 : Hid (Below w.heap.size w w4) := HB3.out.trans (hb.mono HB3.out.size)
          have HX4 : Hid _ := (hb.block _ (pairs.lt_heap HX3.out)).trans HX3.out
          clear hb HX3 c0 c1 c2 c3 c4 c5
          obtain ⟨c0, c1, c2, c3, c4, c5⟩ := cells6 HX4.out
          go_wp2
          go_ret
          exact ⟨rfl, HB4.out⟩
        ·
          go_enter Tryz.func87, Tryz.ntmps87
          go_wp2_with fail
          refine (HH1.out _ ((Below.refl _ _).alloc (Nat.le_refl _) _)).mono ?_
          rintro e w1 ⟨rfl, hb⟩
          have HB1 : Hid (Below w.heap.size w w1) := box_under hb
          have HX1 : Hid _ := box_kept hb
          clear hb
          obtain ⟨c0, c1, c2, c3, c4, c5⟩ := cells6 HX1.out
          go_wp2_with fail
          refine (HH2.out _ HB1.out).mono ?_
          rintro e w2 ⟨rfl, hb⟩
          have HB2 : Hid (Below w.heap.size w w2) := HB1.out.trans (hb.mono HB1.out.size)
          have HX2 : Hid _ := (hb.block _ (pairs.lt_heap HX1.out)).trans HX1.out
          clear hb HX1 c0 c1 c2 c3 c4 c5
          obtain ⟨c0, c1, c2, c3, c4, c5⟩ := cells6 HX2.out
          go_wp2_with fail
          refine (HH3.out _ HB2.out).mono ?_
          rintro e w3 ⟨rfl, hb⟩
          have HB3 : Hid (Below w.heap.size w w3) := HB2.out.trans (hb.mono HB2.out.size)
          have HX3 : Hid _ := (hb.block _ (pairs.lt_heap HX2.out)).trans HX2.out
          clear hb HX2 c0 c1 c2 c3 c4 c5
          obtain ⟨c0, c1, c2, c3, c4, c5⟩ := cells6 HX3.out
          go_wp2_with fail
          refine (HH4.out _ HB3.out).mono ?_
          rintro e w4 ⟨rfl, hb⟩
          have HB4 : Hid (Below w.heap.size w w4) := HB3.out.trans (hb.mono HB3.out.size)
          have HX4 : Hid _ := (hb.block _ (pairs.lt_heap HX3.out)).trans HX3.out
          clear hb HX3 c0 c1 c2 c3 c4 c5
          obtain ⟨c0, c1, c2, c3, c4, c5⟩ := cells6 HX4.out
          go_wp2_with fail
          refine (HH5.out _ HB4.out).mono ?_
          rintro e w5 ⟨rfl, hb⟩
          have HB5 : Hid (Below w.heap.size w w5) := HB4.out.trans (hb.mono HB4.out.size)
          have HX5 : Hid _ := (hb.block _ (pairs.lt_heap HX4.out)).trans HX4.out
          clear hb HX4 c0 c1 c2 c3 c4 c5
          obtain ⟨c0, c1, c2, c3, c4, c5⟩ := cells6 HX5.out
          go_wp2
          go_ret
          exact ⟨rfl, HB5.out⟩
set_option maxRecDepth 100000 in
set_option maxHeartbeats 4000000 in
theorem mark_text_ok (s t : ByteArray) (b1 b2 b3 : Bool) (w : World)
    (H1 : ∀ W, Below w.heap.size w W → Calls Tryz.prog 88 #[.string s] W fun e w' => e = .returned (.bool b1) ∧ Below W.heap.size W w')
    (H2 : ∀ W, Below w.heap.size w W → Calls Tryz.prog 103 #[.string s, .string ⟨#[13]⟩] W fun e w' => e = .returned (.bool b2) ∧ Below W.heap.size W w')
    (H3 : ∀ W, Below w.heap.size w W → Calls Tryz.prog 103 #[.string s, .string t] W fun e w' => e = .returned (.bool b3) ∧ Below W.heap.size W w')
    : Calls Tryz.prog 89 #[.string s, .string t] w fun e w' => e = .returned (.bool (b1 && (!b2 && !b3))) ∧ Below w.heap.size w w' := by
  have HH1 : Hid (∀ W, Below w.heap.size w W → _) := H1
  have HH2 : Hid (∀ W, Below w.heap.size w W → _) := H2
  have HH3 : Hid (∀ W, Below w.heap.size w W → _) := H3
  clear H1 H2 H3
  cases b1
  ·
    go_enter Tryz.func89, Tryz.ntmps89
    go_wp2_with fail
    refine (HH1.out _ (Below.refl _ _)).mono ?_
    rintro e w1 ⟨rfl, hb⟩
    have HB1 : Hid (Below w.heap.size w w1) := hb
    clear hb
    go_wp2
    go_ret
    exact ⟨rfl, HB1.out⟩
  ·
    cases b2
    ·
      go_enter Tryz.func89, Tryz.ntmps89
      go_wp2_with fail
      refine (HH1.out _ (Below.refl _ _)).mono ?_
      rintro e w1 ⟨rfl, hb⟩
      have HB1 : Hid (Below w.heap.size w w1) := hb
      clear hb
      go_wp2_with fail
      refine (HH2.out _ HB1.out).mono ?_
      rintro e w2 ⟨rfl, hb⟩
      have HB2 : Hid (Below w.heap.size w w2) := HB1.out.trans (hb.mono HB1.out.size)
      clear hb
      go_wp2_with fail
      refine (HH3.out _ HB2.out).mono ?_
      rintro e w3 ⟨rfl, hb⟩
      have HB3 : Hid (Below w.heap.size w w3) := HB2.out.trans (hb.mono HB2.out.size)
      clear hb
      go_wp2
      go_ret
      exact ⟨rfl, HB3.out⟩
    ·
      go_enter Tryz.func89, Tryz.ntmps89
      go_wp2_with fail
      refine (HH1.out _ (Below.refl _ _)).mono ?_
      rintro e w1 ⟨rfl, hb⟩
      have HB1 : Hid (Below w.heap.size w w1) := hb
      clear hb
      go_wp2_with fail
      refine (HH2.out _ HB1.out).mono ?_
      rintro e w2 ⟨rfl, hb⟩
      have HB2 : Hid (Below w.heap.size w w2) := HB1.out.trans (hb.mono HB1.out.size)
      clear hb
      go_wp2
      go_ret
      exact ⟨rfl, HB2.out⟩
set_option maxRecDepth 100000 in
set_option maxHeartbeats 4000000 in
theorem shape_ok_whole (ka : Option Addr) (nk kc : Nat) (c1 c2 : Int) (w : World)
    (H1 : ∀ W, Below w.heap.size w W → Calls Tryz.prog 86 #[.slice ka nk kc, .int .i64 1] W fun e w' => e = .returned (.int .i64 c1) ∧ Below W.heap.size W w')
    (H2 : ∀ W, Below w.heap.size w W → Calls Tryz.prog 86 #[.slice ka nk kc, .int .i64 2] W fun e w' => e = .returned (.int .i64 c2) ∧ Below W.heap.size W w')
    : Calls Tryz.prog 75 #[.iface 94 (.agg #[.slice ka nk kc])] w fun e w' => e = .returned (.bool ((c1 == 1) && (c2 == 0))) ∧ Below w.heap.size w w' := by
  have HH1 : Hid (∀ W, Below w.heap.size w W → _) := H1
  have HH2 : Hid (∀ W, Below w.heap.size w W → _) := H2
  clear H1 H2
  have ht0 : ∀ W, Sem.run Tryz.prog (Instr.typeAssert (.iface 94 (.agg #[.slice ka nk kc])) 90 94 true) W = .ok (.tuple #[.agg #[.slice ka nk kc], .bool true]) W := fun _ => by kernel_rfl
  cases h1 : (c1 == 1)
  ·
    go_enter Tryz.func75, Tryz.ntmps75
    go_wp2_with fail
    refine (HH1.out _ ((Below.refl _ _).alloc (Nat.le_refl _) _)).mono ?_
    rintro e w1 ⟨rfl, hb⟩
    have HB1 : Hid (Below w.heap.size w w1) := box_under hb
    have HX1 : Hid _ := box_kept hb
    clear hb
    have c0 := cells1 HX1.out
    go_wp2
    go_ret
    exact ⟨rfl, HB1.out⟩
  ·
    go_enter Tryz.func75, Tryz.ntmps75
    go_wp2_with fail
    refine (HH1.out _ ((Below.refl _ _).alloc (Nat.le_refl _) _)).mono ?_
    rintro e w1 ⟨rfl, hb⟩
    have HB1 : Hid (Below w.heap.size w w1) := box_under hb
    have HX1 : Hid _ := box_kept hb
    clear hb
    have c0 := cells1 HX1.out
    go_wp2_with fail
    refine (HH2.out _ HB1.out).mono ?_
    rintro e w2 ⟨rfl, hb⟩
    have HB2 : Hid (Below w.heap.size w w2) := HB1.out.trans (hb.mono HB1.out.size)
    have HX2 : Hid _ := (hb.block _ (pairs.lt_heap HX1.out)).trans HX1.out
    clear hb HX1 c0
    have c0 := cells1 HX2.out
    go_wp2
    go_ret
    exact ⟨rfl, HB2.out⟩
set_option maxRecDepth 100000 in
set_option maxHeartbeats 4000000 in
theorem shape_ok_el (p l u : ByteArray) (da aa ka : Option Addr) (nd dc na ac nk kc : Nat) (b1 : Bool) (w : World)
    (H1 : ∀ W, Below w.heap.size w W → Calls Tryz.prog 87 #[.agg #[.string p, .string l, .string u, .slice da nd dc, .slice aa na ac, .slice ka nk kc]] W fun e w' => e = .returned (.bool b1) ∧ Below W.heap.size W w')
    : Calls Tryz.prog 75 #[.iface 97 (.agg #[.string p, .string l, .string u, .slice da nd dc, .slice aa na ac, .slice ka nk kc])] w fun e w' => e = .returned (.bool (b1)) ∧ Below w.heap.size w w' := by
  have HH1 : Hid (∀ W, Below w.heap.size w W → _) := H1
  clear H1
  have ht0 : ∀ W, Sem.run Tryz.prog (Instr.typeAssert (.iface 97 (.agg #[.string p, .string l, .string u, .slice da nd dc, .slice aa na ac, .slice ka nk kc])) 90 94 true) W = .ok (.tuple #[.agg #[.slice none 0 0], .bool false]) W := fun _ => by kernel_rfl
  have ht1 : ∀ W, Sem.run Tryz.prog (Instr.typeAssert (.iface 97 (.agg #[.string p, .string l, .string u, .slice da nd dc, .slice aa na ac, .slice ka nk kc])) 90 97 true) W = .ok (.tuple #[.agg #[.string p, .string l, .string u, .slice da nd dc, .slice aa na ac, .slice ka nk kc], .bool true]) W := fun _ => by kernel_rfl
  go_enter Tryz.func75, Tryz.ntmps75
  go_wp2_with fail
  refine (HH1.out _ ((Below.refl _ _).alloc (Nat.le_refl _) _)).mono ?_
  rintro e w1 ⟨rfl, hb⟩
  have HB1 : Hid (Below w.heap.size w w1) := box_under hb
  have HX1 : Hid _ := box_kept hb
  clear hb
  obtain ⟨c0, c1, c2, c3, c4, c5⟩ := cells6 HX1.out
  go_wp2
  go_ret
  exact ⟨rfl, HB1.out⟩
set_option maxRecDepth 100000 in
set_option maxHeartbeats 4000000 in
theorem shape_ok_text (x : ByteArray) (b1 : Bool) (w : World)
    (H1 : ∀ W, Below w.heap.size w W → Calls Tryz.prog 88 #[.string x] W fun e w' => e = .returned (.bool b1) ∧ Below W.heap.size W w')
    : Calls Tryz.prog 75 #[.iface 100 (.agg #[.string x])] w fun e w' => e = .returned (.bool (b1 && !x.toList.isEmpty)) ∧ Below w.heap.size w w' := by
  have HH1 : Hid (∀ W, Below w.heap.size w W → _) := H1
  clear H1
  have ht0 : ∀ W, Sem.run Tryz.prog (Instr.typeAssert (.iface 100 (.agg #[.string x])) 90 94 true) W = .ok (.tuple #[.agg #[.slice none 0 0], .bool false]) W := fun _ => by kernel_rfl
  have ht1 : ∀ W, Sem.run Tryz.prog (Instr.typeAssert (.iface 100 (.agg #[.string x])) 90 97 true) W = .ok (.tuple #[.agg #[.string ⟨#[]⟩, .string ⟨#[]⟩, .string ⟨#[]⟩, .slice none 0 0, .slice none 0 0, .slice none 0 0], .bool false]) W := fun _ => by kernel_rfl
  have ht2 : ∀ W, Sem.run Tryz.prog (Instr.typeAssert (.iface 100 (.agg #[.string x])) 90 100 true) W = .ok (.tuple #[.agg #[.string x], .bool true]) W := fun _ => by kernel_rfl
  cases b1
  ·
    go_enter Tryz.func75, Tryz.ntmps75
    go_wp2_with fail
    refine (HH1.out _ ((Below.refl _ _).alloc (Nat.le_refl _) _)).mono ?_
    rintro e w1 ⟨rfl, hb⟩
    have HB1 : Hid (Below w.heap.size w w1) := box_under hb
    have HX1 : Hid _ := box_kept hb
    clear hb
    have c0 := cells1 HX1.out
    go_wp2
    go_ret
    exact ⟨rfl, HB1.out⟩
  ·
    go_enter Tryz.func75, Tryz.ntmps75
    go_wp2_with fail
    refine (HH1.out _ ((Below.refl _ _).alloc (Nat.le_refl _) _)).mono ?_
    rintro e w1 ⟨rfl, hb⟩
    have HB1 : Hid (Below w.heap.size w w1) := box_under hb
    have HX1 : Hid _ := box_kept hb
    clear hb
    have c0 := cells1 HX1.out
    go_wp2
    go_ret
    exact ⟨rfl, HB1.out⟩
set_option maxRecDepth 100000 in
set_option maxHeartbeats 4000000 in
theorem shape_ok_note (x : ByteArray) (b1 b2 : Bool) (w : World)
    (H1 : ∀ W, Below w.heap.size w W → Calls Tryz.prog 89 #[.string x, .string ⟨#[45, 45]⟩] W fun e w' => e = .returned (.bool b1) ∧ Below W.heap.size W w')
    (H2 : ∀ W, Below w.heap.size w W → Calls Tryz.prog 90 #[.string x, .string ⟨#[45]⟩] W fun e w' => e = .returned (.bool b2) ∧ Below W.heap.size W w')
    : Calls Tryz.prog 75 #[.iface 101 (.agg #[.string x])] w fun e w' => e = .returned (.bool (b1 && !b2)) ∧ Below w.heap.size w w' := by
  have HH1 : Hid (∀ W, Below w.heap.size w W → _) := H1
  have HH2 : Hid (∀ W, Below w.heap.size w W → _) := H2
  clear H1 H2
  have ht0 : ∀ W, Sem.run Tryz.prog (Instr.typeAssert (.iface 101 (.agg #[.string x])) 90 94 true) W = .ok (.tuple #[.agg #[.slice none 0 0], .bool false]) W := fun _ => by kernel_rfl
  have ht1 : ∀ W, Sem.run Tryz.prog (Instr.typeAssert (.iface 101 (.agg #[.string x])) 90 97 true) W = .ok (.tuple #[.agg #[.string ⟨#[]⟩, .string ⟨#[]⟩, .string ⟨#[]⟩, .slice none 0 0, .slice none 0 0, .slice none 0 0], .bool false]) W := fun _ => by kernel_rfl
  have ht2 : ∀ W, Sem.run Tryz.prog (Instr.typeAssert (.iface 101 (.agg #[.string x])) 90 100 true) W = .ok (.tuple #[.agg #[.string ⟨#[]⟩], .bool false]) W := fun _ => by kernel_rfl
  have ht3 : ∀ W, Sem.run Tryz.prog (Instr.typeAssert (.iface 101 (.agg #[.string x])) 90 101 true) W = .ok (.tuple #[.agg #[.string x], .bool true]) W := fun _ => by kernel_rfl
  cases b1
  ·
    go_enter Tryz.func75, Tryz.ntmps75
    go_wp2_with fail
    refine (HH1.out _ ((Below.refl _ _).alloc (Nat.le_refl _) _)).mono ?_
    rintro e w1 ⟨rfl, hb⟩
    have HB1 : Hid (Below w.heap.size w w1) := box_under hb
    have HX1 : Hid _ := box_kept hb
    clear hb
    have c0 := cells1 HX1.out
    go_wp2
    go_ret
    exact ⟨rfl, HB1.out⟩
  ·
    go_enter Tryz.func75, Tryz.ntmps75
    go_wp2_with fail
    refine (HH1.out _ ((Below.refl _ _).alloc (Nat.le_refl _) _)).mono ?_
    rintro e w1 ⟨rfl, hb⟩
    have HB1 : Hid (Below w.heap.size w w1) := box_under hb
    have HX1 : Hid _ := box_kept hb
    clear hb
    have c0 := cells1 HX1.out
    go_wp2_with fail
    refine (HH2.out _ HB1.out).mono ?_
    rintro e w2 ⟨rfl, hb⟩
    have HB2 : Hid (Below w.heap.size w w2) := HB1.out.trans (hb.mono HB1.out.size)
    have HX2 : Hid _ := (hb.block _ (pairs.lt_heap HX1.out)).trans HX1.out
    clear hb HX1 c0
    have c0 := cells1 HX2.out
    go_wp2
    go_ret
    exact ⟨rfl, HB2.out⟩
set_option maxRecDepth 100000 in
set_option maxHeartbeats 4000000 in
theorem shape_ok_told (l x : ByteArray) (b1 b2 b3 : Bool) (w : World)
    (H1 : ∀ W, Below w.heap.size w W → Calls Tryz.prog 91 #[.string l] W fun e w' => e = .returned (.bool b1) ∧ Below W.heap.size W w')
    (H2 : ∀ W, Below w.heap.size w W → Calls Tryz.prog 92 #[.string l, .string ⟨#[120, 109, 108]⟩] W fun e w' => e = .returned (.bool b2) ∧ Below W.heap.size W w')
    (H3 : ∀ W, Below w.heap.size w W → Calls Tryz.prog 93 #[.string x] W fun e w' => e = .returned (.bool b3) ∧ Below W.heap.size W w')
    : Calls Tryz.prog 75 #[.iface 103 (.agg #[.string l, .string x])] w fun e w' => e = .returned (.bool (b1 && (!b2 && b3))) ∧ Below w.heap.size w w' := by
  have HH1 : Hid (∀ W, Below w.heap.size w W → _) := H1
  have HH2 : Hid (∀ W, Below w.heap.size w W → _) := H2
  have HH3 : Hid (∀ W, Below w.heap.size w W → _) := H3
  clear H1 H2 H3
  have ht0 : ∀ W, Sem.run Tryz.prog (Instr.typeAssert (.iface 103 (.agg #[.string l, .string x])) 90 94 true) W = .ok (.tuple #[.agg #[.slice none 0 0], .bool false]) W := fun _ => by kernel_rfl
  have ht1 : ∀ W, Sem.run Tryz.prog (Instr.typeAssert (.iface 103 (.agg #[.string l, .string x])) 90 97 true) W = .ok (.tuple #[.agg #[.string ⟨#[]⟩, .string ⟨#[]⟩, .string ⟨#[]⟩, .slice none 0 0, .slice none 0 0, .slice none 0 0], .bool false]) W := fun _ => by kernel_rfl
  have ht2 : ∀ W, Sem.run Tryz.prog (Instr.typeAssert (.iface 103 (.agg #[.string l, .string x])) 90 100 true) W = .ok (.tuple #[.agg #[.string ⟨#[]⟩], .bool false]) W := fun _ => by kernel_rfl
  have ht3 : ∀ W, Sem.run Tryz.prog (Instr.typeAssert (.iface 103 (.agg #[.string l, .string x])) 90 101 true) W = .ok (.tuple #[.agg #[.string ⟨#[]⟩], .bool false]) W := fun _ => by kernel_rfl
  have ht4 : ∀ W, Sem.run Tryz.prog (Instr.typeAssert (.iface 103 (.agg #[.string l, .string x])) 90 103 true) W = .ok (.tuple #[.agg #[.string l, .string x], .bool true]) W := fun _ => by kernel_rfl
  cases b1
  ·
    go_enter Tryz.func75, Tryz.ntmps75
    go_wp2_with fail
    refine (HH1.out _ ((Below.refl _ _).alloc (Nat.le_refl _) _)).mono ?_
    rintro e w1 ⟨rfl, hb⟩
    have HB1 : Hid (Below w.heap.size w w1) := box_under hb
    have HX1 : Hid _ := box_kept hb
    clear hb
    obtain ⟨c0, c1⟩ := cells2 HX1.out
    go_wp2
    go_ret
    exact ⟨rfl, HB1.out⟩
  ·
    cases b2
    ·
      go_enter Tryz.func75, Tryz.ntmps75
      go_wp2_with fail
      refine (HH1.out _ ((Below.refl _ _).alloc (Nat.le_refl _) _)).mono ?_
      rintro e w1 ⟨rfl, hb⟩
      have HB1 : Hid (Below w.heap.size w w1) := box_under hb
      have HX1 : Hid _ := box_kept hb
      clear hb
      obtain ⟨c0, c1⟩ := cells2 HX1.out
      go_wp2_with fail
      refine (HH2.out _ HB1.out).mono ?_
      rintro e w2 ⟨rfl, hb⟩
      have HB2 : Hid (Below w.heap.size w w2) := HB1.out.trans (hb.mono HB1.out.size)
      have HX2 : Hid _ := (hb.block _ (pairs.lt_heap HX1.out)).trans HX1.out
      clear hb HX1 c0 c1
      obtain ⟨c0, c1⟩ := cells2 HX2.out
      go_wp2_with fail
      refine (HH3.out _ HB2.out).mono ?_
      rintro e w3 ⟨rfl, hb⟩
      have HB3 : Hid (Below w.heap.size w w3) := HB2.out.trans (hb.mono HB2.out.size)
      have HX3 : Hid _ := (hb.block _ (pairs.lt_heap HX2.out)).trans HX2.out
      clear hb HX2 c0 c1
      obtain ⟨c0, c1⟩ := cells2 HX3.out
      go_wp2
      go_ret
      exact ⟨rfl, HB3.out⟩
    ·
      go_enter Tryz.func75, Tryz.ntmps75
      go_wp2_with fail
      refine (HH1.out _ ((Below.refl _ _).alloc (Nat.le_refl _) _)).mono ?_
      rintro e w1 ⟨rfl, hb⟩
      have HB1 : Hid (Below w.heap.size w w1) := box_under hb
      have HX1 : Hid _ := box_kept hb
      clear hb
      obtain ⟨c0, c1⟩ := cells2 HX1.out
      go_wp2_with fail
      refine (HH2.out _ HB1.out).mono ?_
      rintro e w2 ⟨rfl, hb⟩
      have HB2 : Hid (Below w.heap.size w w2) := HB1.out.trans (hb.mono HB1.out.size)
      have HX2 : Hid _ := (hb.block _ (pairs.lt_heap HX1.out)).trans HX1.out
      clear hb HX1 c0 c1
      obtain ⟨c0, c1⟩ := cells2 HX2.out
      go_wp2
      go_ret
      exact ⟨rfl, HB2.out⟩
end Go.Proofs.YtmiiilamjbhheaaGreatDoor.trees
