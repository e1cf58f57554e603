/-
  Whether a text is signs that may stand in one, one behind the other: the specification's l1Signs and TextOk, the program's allSigns and TextOk (over utf8.ValidString, by the kit's contract).
-/
import Derived.Test.YtlkolhfhcicpdaaDoorSpecAt
import Derived.Test.YtlkolhfhcicpdaaDoorSpans
import Derived.Ground.NamesProg
import Derived.Shelf.Unicode.ValidAny
import Derived.Lib.ValidLaws
import Derived.Lib.LaidU8T
import Derived.Lib.TrimUEq
import Derived.Lib.LaidIn
import Derived.Lib.OthersKept
import Derived.WalkSmall
namespace Go.Proofs.YtlkolhfhcicpdaaDoor.scans
open Go.ChangeShapes Go.WideShapes Go.ChangeAt Go.RowKit
open Go.Shelf
set_option linter.unusedVariables false

/-! ### The plain part -/
def scan (s : ByteArray) (ok : Int → Bool) : Nat → Nat → Bool
  | 0, _ => true
  | f + 1, pos => if pos < s.size then (decide (Utf8.decode s pos ≠ (65533, 1)) && ok ((Utf8.decode s pos).1 : Int) && scan s ok f (pos + (Utf8.decode s pos).2)) else true
theorem scan_end (s : ByteArray) (ok : Int → Bool) (f pos : Nat) (h : ¬ pos < s.size) : scan s ok f pos = true := by
  cases f with
  | zero => rfl
  | succ f => simp [scan, h]
theorem scan_bad (s : ByteArray) (ok : Int → Bool) (f pos : Nat) (h : pos < s.size) (hf : s.size ≤ pos + f) (hb : Utf8.decode s pos = (65533, 1) ∨ ok ((Utf8.decode s pos).1 : Int) = false) : scan s ok f pos = false := by
  cases f with
  | zero => omega
  | succ f =>
    rw [scan, if_pos h]
    rcases hb with hb | hb
    · simp [hb]
    · simp [hb]
theorem scan_good (s : ByteArray) (ok : Int → Bool) (f pos : Nat) (h : pos < s.size) (hf : s.size ≤ pos + f) (hb : Utf8.decode s pos ≠ (65533, 1)) (ho : ok ((Utf8.decode s pos).1 : Int) = true) :
    ∃ g, scan s ok f pos = scan s ok g (pos + (Utf8.decode s pos).2) ∧ s.size ≤ pos + (Utf8.decode s pos).2 + g := by
  cases f with
  | zero => omega
  | succ f =>
    refine ⟨f, ?_, ?_⟩
    · rw [scan, if_pos h]; simp [hb, ho]
    · have := dec.decode_pos s pos h; omega
theorem valid_at (s : ByteArray) (pos : Nat) (h : pos < s.size) : Lib.validD (s.data.toList.drop pos) = if Utf8.decode s pos = (65533, 1) then false else Lib.validD (s.data.toList.drop (pos + (Utf8.decode s pos).2)) := by
  have hne : s.data.toList.drop pos ≠ [] := by
    intro e
    have := congrArg List.length e
    rw [List.length_drop, dec.len_list] at this
    simp at this
    omega
  rw [Lib.validD_step _ hne, Lib.decodeL_drop, List.drop_drop]
  by_cases e : Utf8.decode s pos = (65533, 1)
  · simp [e]
  · have e' : ¬ ((Utf8.decode s pos).1 = 65533 ∧ (Utf8.decode s pos).2 = 1) := fun h => e (Prod.ext h.1 h.2)
    rw [if_neg e, if_neg e']
theorem scan_invalid (s : ByteArray) (ok : Int → Bool) : ∀ (f pos : Nat), s.size ≤ pos + f → Lib.validD (s.data.toList.drop pos) = false → scan s ok f pos = false
  | 0, pos, hf, hv => by
    rw [List.drop_of_length_le (by rw [dec.len_list]; omega), Lib.validD_nil] at hv
    cases hv
  | f + 1, pos, hf, hv => by
    by_cases h : pos < s.size
    · rw [valid_at s pos h] at hv
      by_cases e : Utf8.decode s pos = (65533, 1)
      · exact scan_bad s ok (f + 1) pos h hf (.inl e)
      · rw [if_neg e] at hv
        rw [scan, if_pos h, scan_invalid s ok f _ (by have := dec.decode_pos s pos h; omega) hv]
        simp
    · rw [List.drop_of_length_le (by rw [dec.len_list]; omega), Lib.validD_nil] at hv
      cases hv
def signs (s : ByteArray) : Bool := scan s (spans.inB spans.signL) s.size 0
theorem ret_bool {a b : Bool} (h : a = b) : Ending.returned (.bool a) = .returned (.bool b) := by rw [h]

/-! ### The specification's -/
set_option maxHeartbeats 1000000 in
theorem spec_signs (s : ByteArray) (w : World) (hs : s.size ≤ maxLen) : Calls Tryd.prog 34 #[.string s] w fun e w' => e = .returned (.bool (signs s && decide (s.size ≤ 1500))) ∧ w' = w := by
  have HS : Hid (s.size ≤ maxLen) := hs
  unfold maxLen at hs
  go_enter Tryd.func34, Tryd.ntmps34
  go_wp2
  go_loop [3] (fun t => ∃ pos f : Nat, pos ≤ s.size ∧ t = .int .i64 pos ∧ Hid (signs s = scan s (spans.inB spans.signL) f pos) ∧ Hid (s.size ≤ pos + f)) (fun t => s.size - (intOf t).toNat)
  case atStart => exact ⟨0, s.size, Nat.zero_le _, rfl, rfl, by show s.size ≤ 0 + s.size; omega⟩
  case round =>
    obtain ⟨pos, f, hp, rfl, hsc, hf⟩ := hrel
    by_cases hlt : pos < s.size
    · have hc := fun w => signs.spec_in s pos w HS.out hlt
      by_cases hb : Utf8.decode s pos = (65533, 1)
      · have hfin := scan_bad s (spans.inB spans.signL) f pos hlt hf.out (.inl hb)
        rw [← hsc.out] at hfin
        have HF : Hid (signs s = false) := hfin
        rw [signs.satV_no hb] at hc
        have HC : Hid (∀ w, _) := hc
        clear hc hb hfin
        go_wp2_with (go_at_call 38; refine (HC.out _).mono ?_; rintro e w' ⟨rfl, rfl⟩)
        go_ret
        exact ⟨ret_bool (by rw [HF.out]; rfl), rfl⟩
      · have hle := (dec.back s pos hlt hb).1
        have hps := dec.decode_pos s pos hlt
        unfold signs.satV at hc
        rw [if_neg hb] at hc
        obtain ⟨c, ec⟩ : ∃ c : Int, c = ((Utf8.decode s pos).1 : Int) := ⟨_, rfl⟩
        obtain ⟨k, ek⟩ : ∃ k : Nat, k = (Utf8.decode s pos).2 := ⟨_, rfl⟩
        cases ho : spans.inB spans.signL c
        · have hfin := scan_bad s (spans.inB spans.signL) f pos hlt hf.out (.inr (by rw [← ec]; exact ho))
          rw [← hsc.out] at hfin
          have HF : Hid (signs s = false) := hfin
          rw [← ec, ← ek] at hc
          have HC : Hid (∀ w, _) := hc
          clear hc hb hfin ec ek hle hps
          go_wp2_with (first
            | (go_at_call 38; refine (HC.out _).mono ?_; rintro e w' ⟨rfl, rfl⟩)
            | (go_at_call 15; refine (spans.spec_sign _ _).mono ?_; rintro e w' ⟨rfl, rfl⟩))
          go_ret
          exact ⟨ret_bool (by rw [HF.out]; rfl), rfl⟩
        · obtain ⟨g, hg, hg2⟩ := scan_good s (spans.inB spans.signL) f pos hlt hf.out hb (by rw [← ec]; exact ho)
          rw [← ek] at hle hps hg hg2
          have HG : Hid (signs s = scan s (spans.inB spans.signL) g (pos + k)) := by show _ = _; rw [hsc.out, hg]
          have HG2 : Hid (s.size ≤ pos + k + g) := hg2
          rw [← ec, ← ek] at hc
          have HC : Hid (∀ w, _) := hc
          clear hc hb hg hg2 ec ek
          go_wp2_with (first
            | (go_at_call 38; refine (HC.out _).mono ?_; rintro e w' ⟨rfl, rfl⟩)
            | (go_at_call 15; refine (spans.spec_sign _ _).mono ?_; rintro e w' ⟨rfl, rfl⟩))
          go_round
          case rel => exact ⟨pos + k, g, hle, by go_num, HG, HG2⟩
          case measure => simp [intOf]; omega
    · have hfin := scan_end s (spans.inB spans.signL) f pos hlt
      rw [← hsc.out] at hfin
      have HF : Hid (signs s = true) := hfin
      clear hfin
      go_wp2
      go_ret
      exact ⟨ret_bool (by rw [HF.out]; simp; omega), rfl⟩
set_option maxHeartbeats 1000000 in
theorem spec_text (s : ByteArray) (w : World) (hs : s.size ≤ maxLen) : Calls Tryd.prog 18 #[.string s] w fun e w' => e = .returned (.bool (decide (s.size ≤ 600) && signs s)) ∧ w' = w := by
  by_cases h : s.size ≤ 600
  · have h' : (s.size : Int) ≤ 600 := by omega
    have hc := fun w => spec_signs s w hs
    rw [show decide (s.size ≤ 1500) = true from decide_eq_true (by omega), Bool.and_true] at hc
    have HC : Hid (∀ w, _) := hc
    have HD : Hid (decide (s.size ≤ 600) = true) := decide_eq_true h
    clear hc h
    go_enter Tryd.func18, Tryd.ntmps18
    go_wp2_with (go_at_call 34; refine (HC.out _).mono ?_; rintro e w' ⟨rfl, rfl⟩)
    go_ret
    exact ⟨ret_bool (by rw [HD.out]; simp), rfl⟩
  · have h' : ¬ (s.size : Int) ≤ 600 := by omega
    have HD : Hid (decide (s.size ≤ 600) = false) := decide_eq_false h
    clear h
    go_enter Tryd.func18, Tryd.ntmps18
    go_wp2
    go_ret
    exact ⟨ret_bool (by rw [HD.out]; simp; try omega), rfl⟩

/-! ### The program's -/
def laysValid_ren : Go.Shelf.Ren := ⟨fun | 196 => 37 | 259 => 39 | n => n, fun | 9 => 9 | 4 => 4 | 3 => 3 | 5 => 5 | 12 => 12 | 119 => 51 | 0 => 0 | 46 => 49 | 139 => 54 | 138 => 53 | 53 => 55 | n => n, fun | 3 => 3 | 4 => 4 | n => n⟩
theorem laysValid : Go.Proofs.Lays.n196 Tryd.prog laysValid_ren := {
  mixed := by kernel_rfl
  f196 := Tryd.func37.trans (congrArg some (by kernel_rfl))
  f259 := Tryd.func39.trans (congrArg some (by kernel_rfl))
  t0 := Tryd.underlying0
  a0 := Tryd.isAgg0
  z0 := Tryd.sizeOf0
  v0 := Tryd.zeroValue0
  t3 := Tryd.underlying3
  a3 := Tryd.isAgg3
  z3 := Tryd.sizeOf3
  v3 := Tryd.zeroValue3
  t4 := Tryd.underlying4
  a4 := Tryd.isAgg4
  z4 := Tryd.sizeOf4
  v4 := Tryd.zeroValue4
  t5 := Tryd.underlying5
  a5 := Tryd.isAgg5
  z5 := Tryd.sizeOf5
  v5 := Tryd.zeroValue5
  t9 := Tryd.underlying9
  a9 := Tryd.isAgg9
  z9 := Tryd.sizeOf9
  v9 := Tryd.zeroValue9
  t12 := Tryd.underlying12
  a12 := Tryd.isAgg12
  z12 := Tryd.sizeOf12
  v12 := Tryd.zeroValue12
  t46 := Tryd.underlying49
  a46 := Tryd.isAgg49
  z46 := Tryd.sizeOf49
  v46 := Tryd.zeroValue49
  t53 := Tryd.underlying55
  a53 := Tryd.isAgg55
  z53 := Tryd.sizeOf55
  v53 := Tryd.zeroValue55
  t119 := Tryd.underlying51
  a119 := Tryd.isAgg51
  z119 := Tryd.sizeOf51
  t138 := Tryd.underlying53
  a138 := Tryd.isAgg53
  z138 := Tryd.sizeOf53
  v138 := Tryd.zeroValue53
  t139 := Tryd.underlying54
  a139 := Tryd.isAgg54
  z139 := Tryd.sizeOf54
  v139 := Tryd.zeroValue54
  g3 := by kernel_rfl
  g4 := by kernel_rfl }
def Tabs (w : World) : Prop := Lib.Utf8Tabs (laysValid_ren.g 3) (laysValid_ren.g 4) w
theorem valid_any (s : ByteArray) (w : World) (hs : s.size ≤ maxLen) (hT : Tabs w) : Calls Tryd.prog 37 #[.string s] w fun e w' => e = .returned (.bool (Lib.validD s.data.toList)) ∧ Below w.heap.size w w' :=
  Any.utf8_ValidString laysValid s w (by unfold maxLen at hs; omega) hT
theorem next_heap {w w2 : World} {K : Nat} {s : ByteArray} {pos pos' : Nat} (hk : w.heap[K]? = some (.stringIter s pos)) (hb : Below (w.iterAt K s pos').heap.size (w.iterAt K s pos') w2) : w2.heap[K]? = some (.stringIter s pos') := by
  have hlt : K < w.heap.size := (Array.getElem?_eq_some_iff.1 hk).1
  rw [hb.block K (by rw [Lib.iterAt_size]; exact hlt), Lib.iterAt_heap w K s pos pos' hk]
theorem drop_zero (s : ByteArray) : s.data.toList.drop 0 = s.data.toList := rfl
set_option maxRecDepth 100000 in
set_option maxHeartbeats 1000000 in
theorem impl_signs (s : ByteArray) (b off cap : Nat) (w : World) (hs : s.size ≤ maxLen) (hT : Tabs w) (hS : Hid (spans.SpansAt w 2 spans.signL b off cap)) : Calls Tryd.prog 33 #[.string s] w fun e w' => e = .returned (.bool (signs s)) ∧ Below w.heap.size w w' := by
  have HS : Hid (s.size ≤ maxLen) := hs
  have HT : Hid (Tabs w) := hT
  clear hT
  unfold maxLen at hs
  cases hv : Lib.validD s.data.toList
  · have hcv := valid_any s w HS.out HT.out
    rw [hv] at hcv
    have HCV : Hid _ := hcv
    have HF : Hid (signs s = false) := scan_invalid s _ s.size 0 (by omega) (by rw [drop_zero]; exact hv)
    clear hcv hv
    go_enter Tryd.func33, Tryd.ntmps33
    go_wp2_with (go_at_call 37; refine Calls.mono HCV.out ?_; rintro e w1 ⟨rfl, hb1⟩)
    go_ret
    exact ⟨ret_bool HF.out.symm, hb1⟩
  · have hcv := valid_any s w HS.out HT.out
    rw [hv] at hcv
    have HCV : Hid _ := hcv
    have HV : Hid (Lib.validD (s.data.toList.drop 0) = true) := by show _ = _; rw [drop_zero]; exact hv
    clear hcv hv
    go_enter Tryd.func33, Tryd.ntmps33
    go_wp2_with (go_at_call 37; refine Calls.mono HCV.out ?_; rintro e w1 ⟨rfl, hb1⟩)
    go_loopw [4] (fun t w' => ∃ pos f : Nat, pos ≤ s.size ∧ Hid (w'.heap[w1.heap.size]? = some (.stringIter s pos)) ∧ Hid (signs s = scan s (spans.inB spans.signL) f pos) ∧ Hid (s.size ≤ pos + f) ∧ Hid (Lib.validD (s.data.toList.drop pos) = true) ∧ Hid (Below w1.heap.size w1 w')) (fun _ w' => s.size - w'.iterPos w1.heap.size)
    case atStart => exact ⟨0, s.size, Nat.zero_le _, World.iter_heap w1 s 0, rfl, by show s.size ≤ 0 + s.size; omega, HV, (Below.refl _ _).alloc (Nat.le_refl _) _⟩
    case round =>
      obtain ⟨pos, f, hp, hk, hsc, hf, hvp, hbw⟩ := hrel
      by_cases hlt : pos < s.size
      · have hnx : ∀ ty, (Instr.next (.pointer (some ⟨w1.heap.size, 0, none⟩)) true ty).run Tryd.prog wr = .ok (.tuple #[.bool true, .int .i64 pos, .int .i32 (Utf8.decode s pos).1]) (wr.iterAt w1.heap.size s (pos + (Utf8.decode s pos).2)) := fun ty => Lib.run_next_any_at wr w1.heap.size s pos ty hk.out hlt
        have hva := valid_at s pos hlt
        rw [hvp.out] at hva
        have hb : Utf8.decode s pos ≠ (65533, 1) := by intro e; rw [if_pos e] at hva; cases hva
        rw [if_neg hb] at hva
        have hle := (dec.back s pos hlt hb).1
        have hps := dec.decode_pos s pos hlt
        have hcv := dec.decode_valid s pos hlt
        rw [validRune_eq] at hcv
        have hc1 : (Utf8.decode s pos).1 ≤ 1114111 := by simp [validRune] at hcv; omega
        have hbi := Lib.below_iterAt hbw.out (Nat.le_refl _) s (pos + (Utf8.decode s pos).2)
        have hSp := (hS.out.below (Nat.le_refl _) hb1).below (Nat.le_refl _) hbi
        obtain ⟨c, ec⟩ : ∃ c : Nat, c = (Utf8.decode s pos).1 := ⟨_, rfl⟩
        obtain ⟨k, ek⟩ : ∃ k : Nat, k = (Utf8.decode s pos).2 := ⟨_, rfl⟩
        have hsb := scan_bad s (spans.inB spans.signL) f pos hlt hf.out
        have hsg := scan_good s (spans.inB spans.signL) f pos hlt hf.out hb
        rw [← ek] at hsg
        rw [← ec] at hsb hsg
        simp only [← ec, ← ek] at hnx hle hps hc1 hbi hSp hva
        have HSP : Hid _ := hSp
        have HBI : Hid _ := hbi
        have HVA : Hid _ := hva
        have HSB : Hid _ := hsb
        have HSG : Hid _ := hsg
        clear hSp hbi hva hsb hsg hb hcv ec ek
        cases ho : spans.inB spans.signL (c : Int)
        · have HO : Hid (spans.inB spans.signL (c : Int) = false) := ho
          go_wp2_with (go_at_call 14; refine (spans.impl_sign _ _ _ _ _ _ HSP).mono ?_; rintro e w2 ⟨rfl, hb2⟩)
          go_ret
          exact ⟨ret_bool (by rw [hsc.out, HSB.out (.inr HO.out)]), hb1.trans ((HBI.out.trans (hb2.mono HBI.out.size)).mono hb1.size)⟩
        · have HO : Hid (spans.inB spans.signL (c : Int) = true) := ho
          obtain ⟨g, hg, hg2⟩ := HSG.out ho
          have HG : Hid _ := hg
          have HG2 : Hid _ := hg2
          clear hg hg2
          go_wp2_with (go_at_call 14; refine (spans.impl_sign _ _ _ _ _ _ HSP).mono ?_; rintro e w2 ⟨rfl, hb2⟩)
          go_roundw
          case rel => exact ⟨pos + k, g, hle, next_heap hk.out hb2, by show _ = _; rw [hsc.out, HG.out], HG2.out, HVA.out.symm, HBI.out.trans (hb2.mono HBI.out.size)⟩
          case measure =>
            rw [iterPos_of (next_heap hk.out hb2), iterPos_of hk.out]
            omega
      · have hnx : ∀ ty, (Instr.next (.pointer (some ⟨w1.heap.size, 0, none⟩)) true ty).run Tryd.prog wr = .ok (.tuple #[.bool false]) wr := fun ty => Lib.run_next_end_at wr w1.heap.size s pos ty hk.out hlt
        have HF : Hid (signs s = true) := by show _ = _; rw [hsc.out]; exact scan_end s _ f pos hlt
        go_wp2
        go_ret
        exact ⟨ret_bool HF.out.symm, hb1.trans (hbw.out.mono hb1.size)⟩
set_option maxHeartbeats 1000000 in
theorem impl_text (s : ByteArray) (b off cap : Nat) (w : World) (hs : s.size ≤ maxLen) (hT : Tabs w) (hS : Hid (spans.SpansAt w 2 spans.signL b off cap)) : Calls Tryd.prog 17 #[.string s] w fun e w' => e = .returned (.bool (decide (s.size ≤ 600) && signs s)) ∧ Below w.heap.size w w' := by
  by_cases h : s.size ≤ 600
  · have h' : (s.size : Int) ≤ 600 := by omega
    have HC : Hid _ := impl_signs s b off cap w hs hT hS
    have HD : Hid (decide (s.size ≤ 600) = true) := decide_eq_true h
    clear h hT
    go_enter Tryd.func17, Tryd.ntmps17
    go_wp2_with (go_at_call 33; refine Calls.mono HC.out ?_; rintro e w' ⟨rfl, hb⟩)
    go_ret
    exact ⟨ret_bool (by rw [HD.out]; simp), hb⟩
  · have h' : ¬ (s.size : Int) ≤ 600 := by omega
    have HD : Hid (decide (s.size ≤ 600) = false) := decide_eq_false h
    clear h hT
    go_enter Tryd.func17, Tryd.ntmps17
    go_wp2
    go_ret
    exact ⟨ret_bool (by rw [HD.out]; simp; try omega), Below.refl _ _⟩

theorem tabs_below {w w' : World} (h : Tabs w) (hb : Below w.heap.size w w') : Tabs w' := by
  have hg : ∀ (g o : Nat) (v : Value), w.cell? ⟨g, o, none⟩ = some v → w'.cell? ⟨g, o, none⟩ = some v := fun g o v hv => by
    rw [hb.cell (p := ⟨g, o, none⟩) (spans.cell_lt hv)]; exact hv
  exact ⟨fun c hc => hg _ _ _ (h.1 c hc), fun i hi => ⟨hg _ _ _ (h.2 i hi).1, hg _ _ _ (h.2 i hi).2⟩⟩

/-! ### What the row's list gives -/
theorem tabs_of {w : World} {D F : DataW Unit} (eD : D = Lib.acceptData) (eF : F = Lib.firstData) (h3 : Lib.VarReads Tryd.prog w "unicode/utf8.first" F) (h4 : Lib.VarReads Tryd.prog w "unicode/utf8.acceptRanges" D) : Tabs w := by
  subst eD eF
  exact utf8Tabs_of_readsT (U8Types.of196 laysValid) ⟨by kernel_rfl, by kernel_rfl, by kernel_rfl, by kernel_rfl, by kernel_rfl, by kernel_rfl, by kernel_rfl⟩ h3 h4
theorem signs_of {w : World} {D : DataW Unit} (eD : D = spans.spanData spans.signL) (h : Lib.VarReads Tryd.prog w "loop.example/g00484/impl.signSpans" D) : ∃ b off cap, spans.SpansAt w 2 spans.signL b off cap := by
  subst eD
  obtain ⟨g, t, cs, fuel, p, hg, ht, hv, hd⟩ := h
  obtain rfl := Option.some.inj ((show Tryd.prog.globalNamed "loop.example/g00484/impl.signSpans" = some 2 by kernel_rfl).symm.trans hg)
  obtain rfl := Option.some.inj ((show (Tryd.prog.globals[2]?).map (·.type) = some 38 by kernel_rfl).symm.trans ht)
  exact spans.spans_of hg hv (by decide) (by decide) hd
end Go.Proofs.YtlkolhfhcicpdaaDoor.scans
