/-
  The draws of chapter 4 themselves.
-/
import Derived.Test.YtifeikodjinpdaaDoorDrawScopes3
namespace Go.Proofs.YtifeikodjinpdaaDoor.draws
open Go.ChangeShapes Go.WideShapes Go.ChangeAt Go.RowKit
open pairs (Pair at0 PairsAt)
set_option linter.unusedVariables false
theorem under4 {w w1 w2 : World} {cb : Nat} (h : Below w.heap.size w w1) (hcb : cb = w.heap.size) (hc : cb < w1.heap.size) (hb : ButFor cb w1 w2) : Below w.heap.size w w2 :=
  h.trans (hb.below (by omega) (by omega))
theorem Drawn.out {ty : TypeId} {w wr : World} {cb len cap : Nat} {a : Option Addr} {v : Value} {L : List Pair} (h : Drawn ty w wr cb len cap a v L) (hl : L.length ≤ 1000) : ∃ a' cap', v = .slice a' L.length cap' ∧ PairsAt wr a' L :=
  pairs.OwnP.pairs h.own (by unfold maxLen; omega) (fun i hi => by have := h.fine i hi; unfold maxLen; omega)
theorem Drawn.app {ty : TypeId} {w wr w2 : World} {cb len cap : Nat} {a : Option Addr} {v v' : Value} {L M : List Pair} (h : Drawn ty w wr cb len cap a v L) (h0 : CurAt w cb a len cap) (hM : Fine M) (ho : pairs.OwnP ty w2 w.heap.size v' (L ++ M)) (hb : Below w.heap.size wr w2) : Drawn ty w w2 cb len cap a v' (L ++ M) :=
  h.added h0 hM ho hb.size (fun k hk => hb.block k hk) hb.os hb.tape hb.output
structure List4 (w : World) (a : Option Addr) (L : List Pair) : Prop where
  at_ : PairsAt w a L
  fine : Fine L
  len : L.length ≤ 12
theorem List4.below {w w' : World} {a : Option Addr} {L : List Pair} (h : List4 w a L) (hb : Below w.heap.size w w') : List4 w' a L := ⟨h.at_.below (Nat.le_refl _) hb, h.fine, h.len⟩
set_option maxRecDepth 100000 in
set_option maxHeartbeats 1000000 in
theorem drawDeclsOk (w : World) (len cap : Nat) (a : Option Addr) (hz : len ≤ 1048576) (hr : Hid (RowAt w a len)) : Calls Tryd.prog 14 #[.slice a len cap] w fun e w' => ∃ (a' : Option Addr) (L : List Pair) (c : Nat), e = .returned (.slice a' L.length c) ∧ List4 w' a' L ∧ Below w.heap.size w w' := by
  go_enter Tryd.func14, Tryd.ntmps14
  go_wp2_with fail
  refine (new_any _ _ _ _ hz hr).mono ?_
  rintro e w1 ⟨cb, rfl, hcb, hc1, hb1⟩
  have HC1 : Hid _ := hc1
  have HB1 : Hid _ := hb1
  have HCB : Hid _ := hcb
  clear hc1 hb1 hcb hr
  go_wp2_with fail
  refine (l4any _ _ _ _ _ HC1).mono ?_
  rintro e w2 ⟨v, rfl, L, hd, hl, hv⟩
  obtain ⟨a', c', rfl, hp⟩ := hd.out (by omega)
  have HL : Hid (List4 w2 a' L) := ⟨hp, hd.fine, by omega⟩
  have HB2 : Hid _ := under4 HB1.out HCB.out HC1.out.here hd.but
  clear hd hl hv hp
  go_wp2
  go_ret
  exact ⟨a', L, c', rfl, HL.out, HB2.out⟩
set_option maxRecDepth 100000 in
set_option maxHeartbeats 1000000 in
theorem drawInner (w : World) (len cap : Nat) (a : Option Addr) (hz : len ≤ 1048576) (hr : Hid (RowAt w a len)) : Calls Tryd.prog 7 #[.slice a len cap] w fun e w' => ∃ (a1 a2 : Option Addr) (L M : List Pair) (c1 c2 : Nat), e = .returned (.tuple #[.slice a1 L.length c1, .slice a2 M.length c2]) ∧ List4 w' a1 L ∧ List4 w' a2 M ∧ Below w.heap.size w w' := by
  go_enter Tryd.func7, Tryd.ntmps7
  go_wp2_with fail
  refine (new_any _ _ _ _ hz hr).mono ?_
  rintro e w1 ⟨cb, rfl, hcb, hc1, hb1⟩
  have HC1 : Hid _ := hc1
  have HB1 : Hid _ := hb1
  have HCB : Hid _ := hcb
  clear hc1 hb1 hcb hr
  go_wp2_with fail
  refine (l4any _ _ _ _ _ HC1).mono ?_
  rintro e w2 ⟨v, rfl, L, hd, hl, hv⟩
  obtain ⟨a', c', rfl, hp⟩ := hd.out (by omega)
  have HD : Hid _ := hd
  clear hd hv hp
  go_wp2_with fail
  refine (l4any _ _ _ _ _ HD.out.cur).mono ?_
  rintro e w3 ⟨v2, rfl, M, hd2, hl2, hv2⟩
  have hd3 := HD.out.but_for HC1.out.here hd2.cur hd2.but
  obtain ⟨a2, c2, rfl, hp2⟩ := hd2.out (by omega)
  obtain ⟨a3, c3, he3, hp3⟩ := hd3.out (by omega)
  obtain ⟨rfl, rfl⟩ : a' = a3 ∧ c' = c3 := by cases he3; exact ⟨rfl, rfl⟩
  have HL : Hid (List4 w3 a' L) := ⟨hp3, hd3.fine, by omega⟩
  have HM : Hid (List4 w3 a2 M) := ⟨hp2, hd2.fine, by omega⟩
  have HB3 : Hid _ := under4 HB1.out HCB.out HC1.out.here hd3.but
  clear hd2 hl2 hv2 hp2 hd3 hp3 he3 hl HD
  go_wp2
  go_ret2
  exact ⟨a', a2, L, M, c', c2, rfl, HL.out, HM.out, HB3.out⟩
set_option maxRecDepth 100000 in
set_option maxHeartbeats 1000000 in
theorem drawSpaceOf (w : World) (len cap : Nat) (a : Option Addr) (hz : len ≤ 1048576) (hr : Hid (RowAt w a len)) : Calls Tryd.prog 9 #[.slice a len cap] w fun e w' => ∃ (a1 : Option Addr) (L : List Pair) (c1 : Nat) (p : ByteArray), e = .returned (.tuple #[.slice a1 L.length c1, .string p]) ∧ List4 w' a1 L ∧ p.size ≤ 1 ∧ Below w.heap.size w w' := by
  go_enter Tryd.func9, Tryd.ntmps9
  go_wp2_with fail
  refine (new_any _ _ _ _ hz hr).mono ?_
  rintro e w1 ⟨cb, rfl, hcb, hc1, hb1⟩
  have HC1 : Hid _ := hc1
  have HB1 : Hid _ := hb1
  have HCB : Hid _ := hcb
  clear hc1 hb1 hcb hr
  go_wp2_with fail
  refine (l4any _ _ _ _ _ HC1).mono ?_
  rintro e w2 ⟨v, rfl, L, hd, hl, hv⟩
  have HD : Hid _ := hd
  have HV : Hid _ := hv
  clear hd hv
  go_wp2_with fail
  refine (l4draw _ _ _ _ _ HD.out.cur).mono ?_
  rintro e w3 ⟨v2, rfl, M, hd2, hl2, hv2⟩
  have HD3 : Hid _ := HD.out.but_for HC1.out.here hd2.cur hd2.but
  obtain ⟨a2, c2, rfl, hp2⟩ := hd2.out (by omega)
  have HP2 : Hid _ := hp2
  have HF2 : Hid _ := hd2.fine
  have HS3 : Hid (w1.heap.size ≤ w3.heap.size) := HD3.out.but.size
  clear hd2 hv2 hp2 HD
  go_wp2_with (at_builtin; refine pairs.app_Decl w1.heap.size _ L M a2 c2 HD3.out.own HP2.out (by omega) HS3.out HV.out (by rfl) _ _ (by rfl) (by rfl) (by rfl) ?_; rintro v4 w4 ho4 hb4 hv4)
  have HD4 : Hid _ := HD3.out.app HC1.out HF2.out ho4 hb4
  clear ho4 hb4
  refine (any4d_list _ _ _ _ _ HD4.out.cur).mono ?_
  rintro e w5 ⟨p, hp, rfl, hc5, hb5⟩
  have hpz := any4dL_size p hp
  have hd5 := HD4.out.but_for HC1.out.here hc5 hb5
  have hlm : (L ++ M).length ≤ 12 := by rw [List.length_append]; omega
  obtain ⟨a5, c5, rfl, hp5⟩ := hd5.out (by omega)
  have HL : Hid (List4 w5 a5 (L ++ M)) := ⟨hp5, hd5.fine, hlm⟩
  have HB5 : Hid _ := under4 HB1.out HCB.out HC1.out.here hd5.but
  clear hd5 hp hc5 hb5 hp5 hv4
  generalize L ++ M = LM at HL hlm ⊢
  go_wp2
  go_ret2
  exact ⟨a5, LM, c5, p, rfl, HL.out, hpz, HB5.out⟩
set_option maxRecDepth 100000 in
set_option maxHeartbeats 1000000 in
theorem drawPreFor (w : World) (len cap : Nat) (a : Option Addr) (hz : len ≤ 1048576) (hr : Hid (RowAt w a len)) : Calls Tryd.prog 11 #[.slice a len cap] w fun e w' => ∃ (a1 : Option Addr) (L : List Pair) (c1 : Nat) (p : ByteArray) (b : Bool), e = .returned (.tuple #[.slice a1 L.length c1, .string p, .bool b]) ∧ List4 w' a1 L ∧ p.size ≤ 5 ∧ Below w.heap.size w w' := by
  go_enter Tryd.func11, Tryd.ntmps11
  go_wp2_with fail
  refine (new_any _ _ _ _ hz hr).mono ?_
  rintro e w1 ⟨cb, rfl, hcb, hc1, hb1⟩
  have HC1 : Hid _ := hc1
  have HB1 : Hid _ := hb1
  have HCB : Hid _ := hcb
  clear hc1 hb1 hcb hr
  go_wp2_with fail
  refine (l4any _ _ _ _ _ HC1).mono ?_
  rintro e w2 ⟨v, rfl, L, hd, hl, hv⟩
  have HD : Hid _ := hd
  have HV : Hid _ := hv
  clear hd hv
  go_wp2_with fail
  refine (l4draw _ _ _ _ _ HD.out.cur).mono ?_
  rintro e w3 ⟨v2, rfl, M, hd2, hl2, hv2⟩
  have HD3 : Hid _ := HD.out.but_for HC1.out.here hd2.cur hd2.but
  obtain ⟨a2, c2, rfl, hp2⟩ := hd2.out (by omega)
  have HP2 : Hid _ := hp2
  have HF2 : Hid _ := hd2.fine
  have HS3 : Hid (w1.heap.size ≤ w3.heap.size) := HD3.out.but.size
  clear hd2 hv2 hp2 HD
  go_wp2_with (at_builtin; refine pairs.app_Decl w1.heap.size _ L M a2 c2 HD3.out.own HP2.out (by omega) HS3.out HV.out (by rfl) _ _ (by rfl) (by rfl) (by rfl) ?_; rintro v4 w4 ho4 hb4 hv4)
  have HD4 : Hid _ := HD3.out.app HC1.out HF2.out ho4 hb4
  clear ho4 hb4
  refine (l4uri _ _ _ _ _ HD4.out.cur).mono ?_
  rintro e w5 ⟨u, rfl, huz, hc5, hb5⟩
  have HD5 : Hid _ := HD4.out.but_for HC1.out.here hc5 hb5
  have hlm : (L ++ M).length ≤ 12 := by rw [List.length_append]; omega
  clear hc5 hb5
  go_wp2_with fail
  refine (once_any _ _ _ _ _ _ (by omega) HD5.out.cur).mono ?_
  rintro e w6 ⟨q, rfl, hc6, hb6⟩
  have HD6 : Hid _ := HD5.out.but_for HC1.out.here hc6 hb6
  clear hc6 hb6
  cases q
  · go_wp2_with fail
    refine (once_any _ _ _ _ _ _ (by omega) HD6.out.cur).mono ?_
    rintro e w7 ⟨b, rfl, hc7, hb7⟩
    have hd7 := HD6.out.but_for HC1.out.here hc7 hb7
    obtain ⟨a5, c5, rfl, hp5⟩ := hd7.out (by omega)
    have HL : Hid (List4 w7 a5 (L ++ M)) := ⟨hp5, hd7.fine, hlm⟩
    have HB5 : Hid _ := under4 HB1.out HCB.out HC1.out.here hd7.but
    clear hd7 hc7 hb7 hp5 hv4 HD4 HD5 HD6
    generalize L ++ M = LM at HL hlm ⊢
    go_wp2
    go_ret3
    exact ⟨a5, LM, c5, u, b, rfl, HL.out, huz, HB5.out⟩
  · go_wp2_with fail
    refine (once_any _ _ _ _ _ _ (by omega) HD6.out.cur).mono ?_
    rintro e w7 ⟨b, rfl, hc7, hb7⟩
    have hd7 := HD6.out.but_for HC1.out.here hc7 hb7
    obtain ⟨a5, c5, rfl, hp5⟩ := hd7.out (by omega)
    have HL : Hid (List4 w7 a5 (L ++ M)) := ⟨hp5, hd7.fine, hlm⟩
    have HB5 : Hid _ := under4 HB1.out HCB.out HC1.out.here hd7.but
    clear hd7 hc7 hb7 hp5 hv4 HD4 HD5 HD6
    generalize L ++ M = LM at HL hlm ⊢
    go_wp2
    go_ret3
    exact ⟨a5, LM, c5, ⟨#[]⟩, b, rfl, HL.out, by decide, HB5.out⟩
end Go.Proofs.YtifeikodjinpdaaDoor.draws
