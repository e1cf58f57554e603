/-
  Whether a text is signs that may stand in one, one behind the other: the specification's l1Signs and TextOk, the program's allSigns and TextOk (over utf8.ValidString, by the kit's contract).
-/
import Derived.Test.YtmiiilamjbhheaaGreatDoorScanS
import Derived.Ground.NamesProg
import Derived.Shelf.Unicode.ValidAny
import Derived.Lib.ValidLaws
import Derived.Lib.LaidU8T
import Derived.Lib.TrimUEq
import Derived.Lib.LaidIn
import Derived.Lib.OthersKept
import Derived.WalkSmall
namespace Go.Proofs.YtmiiilamjbhheaaGreatDoor.scans
open Go.ChangeShapes Go.WideShapes Go.ChangeAt Go.RowKit
open Go.Shelf
set_option linter.unusedVariables false

/-! ### The plain part -/
theorem valid_at (s : ByteArray) (pos : Nat) (h : pos < s.size) : Lib.validD (s.data.toList.drop pos) = if Utf8.decode s pos = (65533, 1) then false else Lib.validD (s.data.toList.drop (pos + (Utf8.decode s pos).2)) := by
  have hne : s.data.toList.drop pos ≠ [] := by
    intro e
    have := congrArg List.length e
    rw [List.length_drop, dec.len_list] at this
    simp at this
    omega
  rw [Lib.validD_step _ hne, Lib.decodeL_drop, List.drop_drop]
  by_cases e : Utf8.decode s pos = (65533, 1)
  · simp [e]
  · have e' : ¬ ((Utf8.decode s pos).1 = 65533 ∧ (Utf8.decode s pos).2 = 1) := fun h => e (Prod.ext h.1 h.2)
    rw [if_neg e, if_neg e']
theorem scan_invalid (s : ByteArray) (ok : Int → Bool) : ∀ (f pos : Nat), s.size ≤ pos + f → Lib.validD (s.data.toList.drop pos) = false → scan s ok f pos = false
  | 0, pos, hf, hv => by
    rw [List.drop_of_length_le (by rw [dec.len_list]; omega), Lib.validD_nil] at hv
    cases hv
  | f + 1, pos, hf, hv => by
    by_cases h : pos < s.size
    · rw [valid_at s pos h] at hv
      by_cases e : Utf8.decode s pos = (65533, 1)
      · exact scan_bad s ok (f + 1) pos h hf (.inl e)
      · rw [if_neg e] at hv
        rw [scan, if_pos h, scan_invalid s ok f _ (by have := dec.decode_pos s pos h; omega) hv]
        simp
    · rw [List.drop_of_length_le (by rw [dec.len_list]; omega), Lib.validD_nil] at hv
      cases hv
/-! ### The program's -/
def laysValid_ren : Go.Shelf.Ren := ⟨fun | 196 => 118 | 259 => 130 | n => n, fun | 9 => 9 | 4 => 4 | 3 => 3 | 5 => 5 | 12 => 12 | 119 => 157 | 0 => 0 | 46 => 148 | 139 => 160 | 138 => 159 | 53 => 166 | n => n, fun | 3 => 5 | 4 => 6 | n => n⟩
theorem laysValid : Go.Proofs.Lays.n196 Tryz.prog laysValid_ren := {
  mixed := by kernel_rfl
  f196 := Tryz.func118.trans (congrArg some (by kernel_rfl))
  f259 := Tryz.func130.trans (congrArg some (by kernel_rfl))
  t0 := Tryz.underlying0
  a0 := Tryz.isAgg0
  z0 := Tryz.sizeOf0
  v0 := Tryz.zeroValue0
  t3 := Tryz.underlying3
  a3 := Tryz.isAgg3
  z3 := Tryz.sizeOf3
  v3 := Tryz.zeroValue3
  t4 := Tryz.underlying4
  a4 := Tryz.isAgg4
  z4 := Tryz.sizeOf4
  v4 := Tryz.zeroValue4
  t5 := Tryz.underlying5
  a5 := Tryz.isAgg5
  z5 := Tryz.sizeOf5
  v5 := Tryz.zeroValue5
  t9 := Tryz.underlying9
  a9 := Tryz.isAgg9
  z9 := Tryz.sizeOf9
  v9 := Tryz.zeroValue9
  t12 := Tryz.underlying12
  a12 := Tryz.isAgg12
  z12 := Tryz.sizeOf12
  v12 := Tryz.zeroValue12
  t46 := Tryz.underlying148
  a46 := Tryz.isAgg148
  z46 := Tryz.sizeOf148
  v46 := Tryz.zeroValue148
  t53 := Tryz.underlying166
  a53 := Tryz.isAgg166
  z53 := Tryz.sizeOf166
  v53 := Tryz.zeroValue166
  t119 := Tryz.underlying157
  a119 := Tryz.isAgg157
  z119 := Tryz.sizeOf157
  t138 := Tryz.underlying159
  a138 := Tryz.isAgg159
  z138 := Tryz.sizeOf159
  v138 := Tryz.zeroValue159
  t139 := Tryz.underlying160
  a139 := Tryz.isAgg160
  z139 := Tryz.sizeOf160
  v139 := Tryz.zeroValue160
  g3 := by kernel_rfl
  g4 := by kernel_rfl }
def Tabs (w : World) : Prop := Lib.Utf8Tabs (laysValid_ren.g 3) (laysValid_ren.g 4) w
theorem valid_any (s : ByteArray) (w : World) (hs : s.size ≤ maxLen) (hT : Tabs w) : Calls Tryz.prog 118 #[.string s] w fun e w' => e = .returned (.bool (Lib.validD s.data.toList)) ∧ Below w.heap.size w w' :=
  Any.utf8_ValidString laysValid s w (by unfold maxLen at hs; omega) hT
theorem next_heap {w w2 : World} {K : Nat} {s : ByteArray} {pos pos' : Nat} (hk : w.heap[K]? = some (.stringIter s pos)) (hb : Below (w.iterAt K s pos').heap.size (w.iterAt K s pos') w2) : w2.heap[K]? = some (.stringIter s pos') := by
  have hlt : K < w.heap.size := (Array.getElem?_eq_some_iff.1 hk).1
  rw [hb.block K (by rw [Lib.iterAt_size]; exact hlt), Lib.iterAt_heap w K s pos pos' hk]
theorem drop_zero (s : ByteArray) : s.data.toList.drop 0 = s.data.toList := rfl
set_option maxRecDepth 100000 in
set_option maxHeartbeats 1000000 in
theorem impl_signs (s : ByteArray) (b off cap : Nat) (w : World) (hs : s.size ≤ maxLen) (hT : Tabs w) (hS : Hid (spans.SpansAt w 7 spans.signL b off cap)) : Calls Tryz.prog 102 #[.string s] w fun e w' => e = .returned (.bool (signs s)) ∧ Below w.heap.size w w' := by
  have HS : Hid (s.size ≤ maxLen) := hs
  have HT : Hid (Tabs w) := hT
  clear hT
  unfold maxLen at hs
  cases hv : Lib.validD s.data.toList
  · have hcv := valid_any s w HS.out HT.out
    rw [hv] at hcv
    have HCV : Hid _ := hcv
    have HF : Hid (signs s = false) := scan_invalid s _ s.size 0 (by omega) (by rw [drop_zero]; exact hv)
    clear hcv hv
    go_enter Tryz.func102, Tryz.ntmps102
    go_wp2_with (go_at_call 118; refine Calls.mono HCV.out ?_; rintro e w1 ⟨rfl, hb1⟩)
    go_ret
    exact ⟨ret_bool HF.out.symm, hb1⟩
  · have hcv := valid_any s w HS.out HT.out
    rw [hv] at hcv
    have HCV : Hid _ := hcv
    have HV : Hid (Lib.validD (s.data.toList.drop 0) = true) := by show _ = _; rw [drop_zero]; exact hv
    clear hcv hv
    go_enter Tryz.func102, Tryz.ntmps102
    go_wp2_with (go_at_call 118; refine Calls.mono HCV.out ?_; rintro e w1 ⟨rfl, hb1⟩)
    go_loopw [4] (fun t w' => ∃ pos f : Nat, pos ≤ s.size ∧ Hid (w'.heap[w1.heap.size]? = some (.stringIter s pos)) ∧ Hid (signs s = scan s (spans.inB spans.signL) f pos) ∧ Hid (s.size ≤ pos + f) ∧ Hid (Lib.validD (s.data.toList.drop pos) = true) ∧ Hid (Below w1.heap.size w1 w')) (fun _ w' => s.size - w'.iterPos w1.heap.size)
    case atStart => exact ⟨0, s.size, Nat.zero_le _, World.iter_heap w1 s 0, rfl, by show s.size ≤ 0 + s.size; omega, HV, (Below.refl _ _).alloc (Nat.le_refl _) _⟩
    case round =>
      obtain ⟨pos, f, hp, hk, hsc, hf, hvp, hbw⟩ := hrel
      by_cases hlt : pos < s.size
      · have hnx : ∀ ty, (Instr.next (.pointer (some ⟨w1.heap.size, 0, none⟩)) true ty).run Tryz.prog wr = .ok (.tuple #[.bool true, .int .i64 pos, .int .i32 (Utf8.decode s pos).1]) (wr.iterAt w1.heap.size s (pos + (Utf8.decode s pos).2)) := fun ty => Lib.run_next_any_at wr w1.heap.size s pos ty hk.out hlt
        have hva := valid_at s pos hlt
        rw [hvp.out] at hva
        have hb : Utf8.decode s pos ≠ (65533, 1) := by intro e; rw [if_pos e] at hva; cases hva
        rw [if_neg hb] at hva
        have hle := (dec.back s pos hlt hb).1
        have hps := dec.decode_pos s pos hlt
        have hcv := dec.decode_valid s pos hlt
        rw [validRune_eq] at hcv
        have hc1 : (Utf8.decode s pos).1 ≤ 1114111 := by simp [validRune] at hcv; omega
        have hbi := Lib.below_iterAt hbw.out (Nat.le_refl _) s (pos + (Utf8.decode s pos).2)
        have hSp := (hS.out.below (Nat.le_refl _) hb1).below (Nat.le_refl _) hbi
        obtain ⟨c, ec⟩ : ∃ c : Nat, c = (Utf8.decode s pos).1 := ⟨_, rfl⟩
        obtain ⟨k, ek⟩ : ∃ k : Nat, k = (Utf8.decode s pos).2 := ⟨_, rfl⟩
        have hsb := scan_bad s (spans.inB spans.signL) f pos hlt hf.out
        have hsg := scan_good s (spans.inB spans.signL) f pos hlt hf.out hb
        rw [← ek] at hsg
        rw [← ec] at hsb hsg
        simp only [← ec, ← ek] at hnx hle hps hc1 hbi hSp hva
        have HSP : Hid _ := hSp
        have HBI : Hid _ := hbi
        have HVA : Hid _ := hva
        have HSB : Hid _ := hsb
        have HSG : Hid _ := hsg
        clear hSp hbi hva hsb hsg hb hcv ec ek
        cases ho : spans.inB spans.signL (c : Int)
        · have HO : Hid (spans.inB spans.signL (c : Int) = false) := ho
          go_wp2_with (go_at_call 119; refine (spans.impl_sign _ _ _ _ _ _ HSP).mono ?_; rintro e w2 ⟨rfl, hb2⟩)
          go_ret
          exact ⟨ret_bool (by rw [hsc.out, HSB.out (.inr HO.out)]), hb1.trans ((HBI.out.trans (hb2.mono HBI.out.size)).mono hb1.size)⟩
        · have HO : Hid (spans.inB spans.signL (c : Int) = true) := ho
          obtain ⟨g, hg, hg2⟩ := HSG.out ho
          have HG : Hid _ := hg
          have HG2 : Hid _ := hg2
          clear hg hg2
          go_wp2_with (go_at_call 119; refine (spans.impl_sign _ _ _ _ _ _ HSP).mono ?_; rintro e w2 ⟨rfl, hb2⟩)
          go_roundw
          case rel => exact ⟨pos + k, g, hle, next_heap hk.out hb2, by show _ = _; rw [hsc.out, HG.out], HG2.out, HVA.out.symm, HBI.out.trans (hb2.mono HBI.out.size)⟩
          case measure =>
            rw [iterPos_of (next_heap hk.out hb2), iterPos_of hk.out]
            omega
      · have hnx : ∀ ty, (Instr.next (.pointer (some ⟨w1.heap.size, 0, none⟩)) true ty).run Tryz.prog wr = .ok (.tuple #[.bool false]) wr := fun ty => Lib.run_next_end_at wr w1.heap.size s pos ty hk.out hlt
        have HF : Hid (signs s = true) := by show _ = _; rw [hsc.out]; exact scan_end s _ f pos hlt
        go_wp2
        go_ret
        exact ⟨ret_bool HF.out.symm, hb1.trans (hbw.out.mono hb1.size)⟩
set_option maxHeartbeats 1000000 in
theorem impl_text (s : ByteArray) (b off cap : Nat) (w : World) (hs : s.size ≤ maxLen) (hT : Tabs w) (hS : Hid (spans.SpansAt w 7 spans.signL b off cap)) : Calls Tryz.prog 88 #[.string s] w fun e w' => e = .returned (.bool (decide (s.size ≤ 600) && signs s)) ∧ Below w.heap.size w w' := by
  by_cases h : s.size ≤ 600
  · have h' : (s.size : Int) ≤ 600 := by omega
    have HC : Hid _ := impl_signs s b off cap w hs hT hS
    have HD : Hid (decide (s.size ≤ 600) = true) := decide_eq_true h
    clear h hT
    go_enter Tryz.func88, Tryz.ntmps88
    go_wp2_with (go_at_call 102; refine Calls.mono HC.out ?_; rintro e w' ⟨rfl, hb⟩)
    go_ret
    exact ⟨ret_bool (by rw [HD.out]; simp), hb⟩
  · have h' : ¬ (s.size : Int) ≤ 600 := by omega
    have HD : Hid (decide (s.size ≤ 600) = false) := decide_eq_false h
    clear h hT
    go_enter Tryz.func88, Tryz.ntmps88
    go_wp2
    go_ret
    exact ⟨ret_bool (by rw [HD.out]; simp; try omega), Below.refl _ _⟩

theorem tabs_below {w w' : World} (h : Tabs w) (hb : Below w.heap.size w w') : Tabs w' := by
  have hg : ∀ (g o : Nat) (v : Value), w.cell? ⟨g, o, none⟩ = some v → w'.cell? ⟨g, o, none⟩ = some v := fun g o v hv => by
    rw [hb.cell (p := ⟨g, o, none⟩) (spans.cell_lt hv)]; exact hv
  exact ⟨fun c hc => hg _ _ _ (h.1 c hc), fun i hi => ⟨hg _ _ _ (h.2 i hi).1, hg _ _ _ (h.2 i hi).2⟩⟩

/-! ### What the row's list gives -/
theorem tabs_of {w : World} {D F : DataW Unit} (eD : D = Lib.acceptData) (eF : F = Lib.firstData) (h3 : Lib.VarReads Tryz.prog w "unicode/utf8.first" F) (h4 : Lib.VarReads Tryz.prog w "unicode/utf8.acceptRanges" D) : Tabs w := by
  subst eD eF
  exact utf8Tabs_of_readsT (U8Types.of196 laysValid) ⟨by kernel_rfl, by kernel_rfl, by kernel_rfl, by kernel_rfl, by kernel_rfl, by kernel_rfl, by kernel_rfl⟩ h3 h4
theorem signs_of {w : World} {D : DataW Unit} (eD : D = spans.spanData spans.signL) (h : Lib.VarReads Tryz.prog w "loop.example/g00484/impl.signSpans" D) : ∃ b off cap, spans.SpansAt w 7 spans.signL b off cap := by
  subst eD
  obtain ⟨g, t, cs, fuel, p, hg, ht, hv, hd⟩ := h
  obtain rfl := Option.some.inj ((show Tryz.prog.globalNamed "loop.example/g00484/impl.signSpans" = some 7 by kernel_rfl).symm.trans hg)
  obtain rfl := Option.some.inj ((show (Tryz.prog.globals[7]?).map (·.type) = some 142 by kernel_rfl).symm.trans ht)
  exact spans.spans_of hg hv (by decide) (by decide) hd
end Go.Proofs.YtmiiilamjbhheaaGreatDoor.scans
