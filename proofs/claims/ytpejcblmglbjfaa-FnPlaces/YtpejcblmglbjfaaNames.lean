/-
  Names: what the specification's PlainOk, SplitName, JoinName and NameAt answer.
-/
import Derived.Test.YtpejcblmglbjfaaScanP
import Derived.Test.YtpejcblmglbjfaaSignS
import Derived.Test.YtpejcblmglbjfaaSpans
import Derived.Deep.QuietTactic
import Derived.BigQuiet
import Derived.WalkSmall
namespace Go.Proofs.Ytpejcblmglbjfaa.names
open Go.ChangeShapes Go.WideShapes Go.ChangeAt Go.RowKit
set_option linter.unusedVariables false

/-! ### The plain part -/
def partB (n : Int) : Bool := spans.inB spans.partL n || spans.inB spans.startL n
def startB (n : Int) : Bool := spans.inB spans.startL n
theorem start_part {n : Int} (h : startB n = true) : partB n = true := by unfold startB at h; unfold partB; rw [h]; simp
def plainB (s : ByteArray) : Bool := decide (1 ≤ s.size ∧ s.size ≤ 16) && (scans.scan s partB s.size 0 && startB ((Utf8.decode s 0).1 : Int))
theorem plain_size {s : ByteArray} (h : ¬ (1 ≤ s.size ∧ s.size ≤ 16)) : plainB s = false := by unfold plainB; rw [decide_eq_false h]; rfl
theorem plain_scan {s : ByteArray} (h : scans.scan s partB s.size 0 = false) : plainB s = false := by unfold plainB; rw [h]; simp
theorem plain_start {s : ByteArray} (h : startB ((Utf8.decode s 0).1 : Int) = false) : plainB s = false := by unfold plainB; rw [h]; simp
theorem plain_yes {s : ByteArray} (h : 1 ≤ s.size ∧ s.size ≤ 16) (h1 : scans.scan s partB s.size 0 = true) (h2 : startB ((Utf8.decode s 0).1 : Int) = true) : plainB s = true := by unfold plainB; rw [decide_eq_true h, h1, h2]; rfl
theorem ret_bool {a b : Bool} (h : a = b) : Ending.returned (.bool a) = .returned (.bool b) := by rw [h]

theorem spec_part (n : Int) (w : World) : Calls Try.prog 123 #[.int .i64 n] w fun e w' => e = .returned (.bool (partB n)) ∧ Below w.heap.size w w' := spans.spec_part n w
theorem spec_start (n : Int) (w : World) : Calls Try.prog 122 #[.int .i64 n] w fun e w' => e = .returned (.bool (startB n)) ∧ Below w.heap.size w w' := spans.spec_start n w
set_option maxRecDepth 100000 in
set_option maxHeartbeats 2000000 in
theorem spec_plain (s : ByteArray) (w : World) (hs : s.size ≤ maxLen) : Calls Try.prog 112 #[.string s] w fun e w' => e = .returned (.bool (plainB s)) ∧ Below w.heap.size w w' := by
  have HS : Hid (s.size ≤ maxLen) := hs
  unfold maxLen at hs
  by_cases hz : 1 ≤ s.size ∧ s.size ≤ 16
  · obtain ⟨hz1, hz2⟩ := hz
    have hz1' : (1 : Int) ≤ s.size := by omega
    have hz2' : (s.size : Int) ≤ 16 := by omega
    have hin := fun w => spans.in_any 1 16 (s.size : Int) w
    rw [spans.one_yes hz1' hz2'] at hin
    have HIN : Hid (∀ w, _) := hin
    clear hin
    go_enter Try.func112, Try.ntmps112
    go_wp2_with (go_at_call 53; refine (HIN.out _).mono ?_; rintro e w' ⟨rfl, hw⟩; have hw2 := hw.symm; clear hw; subst hw2)
    go_loopw [3] (fun t w' => ∃ pos f : Nat, pos ≤ s.size ∧ t = .int .i64 pos ∧ Hid (scans.scan s partB s.size 0 = scans.scan s partB f pos) ∧ Hid (s.size ≤ pos + f) ∧ Hid (0 < pos → startB ((Utf8.decode s 0).1 : Int) = true) ∧ Hid (Below w.heap.size w w')) (fun t _ => s.size - (intOf t).toNat)
    case atStart => exact ⟨0, s.size, Nat.zero_le _, rfl, rfl, by show s.size ≤ 0 + s.size; omega, fun h => by omega, Below.refl _ _⟩
    case round =>
      obtain ⟨pos, f, hp, rfl, hsc, hf, hst, hbw⟩ := hrel
      by_cases hlt : pos < s.size
      · have hc := fun w => signs.spec_in s pos w HS.out hlt
        by_cases hb : Utf8.decode s pos = (65533, 1)
        · have HF : Hid (plainB s = false) := plain_scan (by rw [hsc.out]; exact scans.scan_bad s partB f pos hlt hf.out (.inl hb))
          rw [signs.satV_no hb] at hc
          have HC : Hid (∀ w, _) := hc
          clear hc hb
          go_wp2_with (go_at_call 121; refine (HC.out _).mono ?_; rintro e w' ⟨rfl, rfl⟩)
          go_ret
          exact ⟨ret_bool HF.out.symm, hbw.out⟩
        · have hle := (dec.back s pos hlt hb).1
          have hps := dec.decode_pos s pos hlt
          unfold signs.satV at hc
          rw [if_neg hb] at hc
          have hbad := scans.scan_bad s partB f pos hlt hf.out
          have hgood := scans.scan_good s partB f pos hlt hf.out hb
          have hzero : pos = 0 → ((Utf8.decode s 0).1 : Int) = ((Utf8.decode s pos).1 : Int) := fun h => by rw [h]
          obtain ⟨c, ec⟩ : ∃ c : Int, c = ((Utf8.decode s pos).1 : Int) := ⟨_, rfl⟩
          obtain ⟨k, ek⟩ : ∃ k : Nat, k = (Utf8.decode s pos).2 := ⟨_, rfl⟩
          rw [← ec] at hbad hgood hzero
          rw [← ek] at hgood hle hps
          rw [← ec, ← ek] at hc
          have HC : Hid (∀ w, _) := hc
          have HBAD : Hid _ := hbad
          have HGOOD : Hid _ := hgood
          have HZ : Hid _ := hzero
          have hPt := spec_part c
          have hSt := spec_start c
          have hsp := @start_part c
          clear hc hb hbad hgood hzero ec ek
          by_cases hp0 : pos = 0
          · have e0 : ((pos : Int) == 0) = true := by rw [hp0]; rfl
            cases hsb : startB c
            · have HF : Hid (plainB s = false) := plain_start (by rw [HZ.out hp0]; exact hsb)
              rw [hsb] at hSt
              have HSt : Hid (∀ w, _) := hSt
              have E0 : Hid _ := hp0
              clear hSt hPt hsp hsb hp0
              go_wp2_with (first
                | (go_at_call 121; refine (HC.out _).mono ?_; rintro e w' ⟨rfl, rfl⟩)
                | (go_at_call 122; refine (HSt.out _).mono ?_; rintro e w2 ⟨rfl, hb2⟩))
              go_ret
              exact ⟨ret_bool HF.out.symm, hbw.out.trans (hb2.mono hbw.out.size)⟩
            · obtain ⟨g, hg, hg2⟩ := HGOOD.out (hsp hsb)
              have HG : Hid _ := hg
              have HG2 : Hid _ := hg2
              have HSB : Hid (startB ((Utf8.decode s 0).1 : Int) = true) := by show _ = _; rw [HZ.out hp0]; exact hsb
              rw [hsb] at hSt
              rw [hsp hsb] at hPt
              have HSt : Hid (∀ w, _) := hSt
              have HPt : Hid (∀ w, _) := hPt
              clear hSt hPt hsp hsb hp0 hg hg2
              go_wp2_with (first
                | (go_at_call 121; refine (HC.out _).mono ?_; rintro e w' ⟨rfl, rfl⟩)
                | (go_at_call 122; refine (HSt.out _).mono ?_; rintro e w2 ⟨rfl, hb2⟩)
                | (go_at_call 123; refine (HPt.out _).mono ?_; rintro e w3 ⟨rfl, hb3⟩))
              go_roundw
              case rel => exact ⟨pos + k, g, hle, by go_num, by show _ = _; rw [hsc.out, HG.out], HG2.out, fun _ => HSB.out, (hbw.out.trans (hb2.mono hbw.out.size)).trans (hb3.mono (Nat.le_trans hbw.out.size hb2.size))⟩
              case measure => simp [intOf]; omega
          · have e0 : ((pos : Int) == 0) = false := by simp; omega
            have HST : Hid _ := hst.out (by omega)
            clear hSt hp0
            cases hpb : partB c
            · have HF : Hid (plainB s = false) := plain_scan (by rw [hsc.out]; exact HBAD.out (.inr hpb))
              rw [hpb] at hPt
              have HPt : Hid (∀ w, _) := hPt
              clear hPt hsp hpb
              go_wp2_with (first
                | (go_at_call 121; refine (HC.out _).mono ?_; rintro e w' ⟨rfl, rfl⟩)
                | (go_at_call 123; refine (HPt.out _).mono ?_; rintro e w3 ⟨rfl, hb3⟩))
              go_ret
              exact ⟨ret_bool HF.out.symm, hbw.out.trans (hb3.mono hbw.out.size)⟩
            · obtain ⟨g, hg, hg2⟩ := HGOOD.out hpb
              have HG : Hid _ := hg
              have HG2 : Hid _ := hg2
              rw [hpb] at hPt
              have HPt : Hid (∀ w, _) := hPt
              clear hPt hsp hpb hg hg2
              go_wp2_with (first
                | (go_at_call 121; refine (HC.out _).mono ?_; rintro e w' ⟨rfl, rfl⟩)
                | (go_at_call 123; refine (HPt.out _).mono ?_; rintro e w3 ⟨rfl, hb3⟩))
              go_roundw
              case rel => exact ⟨pos + k, g, hle, by go_num, by show _ = _; rw [hsc.out, HG.out], HG2.out, fun _ => HST.out, hbw.out.trans (hb3.mono hbw.out.size)⟩
              case measure => simp [intOf]; omega
      · have HF : Hid (plainB s = true) := plain_yes ⟨hz1, hz2⟩ (by rw [hsc.out]; exact scans.scan_end s _ f pos hlt) (hst.out (by omega))
        go_wp2
        go_ret
        exact ⟨ret_bool HF.out.symm, hbw.out⟩
  · have HF : Hid (plainB s = false) := plain_size hz
    have hin := fun w => spans.in_any 1 16 (s.size : Int) w
    rw [spans.one_no (lo := 1) (hi := 16) (n := (s.size : Int)) (by omega)] at hin
    have HIN : Hid (∀ w, _) := hin
    clear hin hz
    go_enter Try.func112, Try.ntmps112
    go_wp2_with (go_at_call 53; refine (HIN.out _).mono ?_; rintro e w' ⟨rfl, rfl⟩)
    go_ret
    exact ⟨ret_bool HF.out.symm, Below.refl _ _⟩

/-! ### A name's parts -/
def splitI (s : ByteArray) : Option Nat := (List.range s.size).find? fun i => (s.get! i).toNat == 58
theorem splitI_some {s : ByteArray} {k : Nat} (hk : k < s.size) (h : (s.get! k).toNat = 58) (h0 : ∀ j, j < k → (s.get! j).toNat ≠ 58) : splitI s = some k := by
  unfold splitI
  rw [List.find?_range_eq_some]
  exact ⟨by simp [h], by simpa using hk, fun j hj => by simp [h0 j hj]⟩
theorem splitI_none {s : ByteArray} (h0 : ∀ j, j < s.size → (s.get! j).toNat ≠ 58) : splitI s = none := by
  unfold splitI
  rw [List.find?_range_eq_none]
  intro j hj
  simp [h0 j hj]
def splitT (s : ByteArray) : ByteArray × ByteArray × Bool :=
  if plainB s = true then (⟨#[]⟩, s, true) else
  match splitI s with
  | none => (⟨#[]⟩, ⟨#[]⟩, false)
  | some i => if plainB (s.extract 0 i) = true ∧ plainB (s.extract (i + 1) s.size) = true then (s.extract 0 i, s.extract (i + 1) s.size, true) else (⟨#[]⟩, ⟨#[]⟩, false)
def t3 (x : ByteArray × ByteArray × Bool) : Value := .tuple #[.string x.1, .string x.2.1, .bool x.2.2]
theorem ret_t3 {a b : ByteArray} {c : Bool} {x : ByteArray × ByteArray × Bool} (h : x = (a, b, c)) : Ending.returned (.tuple #[.string a, .string b, .bool c]) = .returned (t3 x) := by rw [h]; rfl
theorem split_plain {s : ByteArray} (h : plainB s = true) : splitT s = (⟨#[]⟩, s, true) := by unfold splitT; rw [if_pos h]
theorem split_none {s : ByteArray} (h : plainB s = false) (h1 : splitI s = none) : splitT s = (⟨#[]⟩, ⟨#[]⟩, false) := by unfold splitT; rw [if_neg (by rw [h]; decide), h1]
theorem split_bad {s : ByteArray} {i : Nat} (h : plainB s = false) (h1 : splitI s = some i) (h2 : ¬ (plainB (s.extract 0 i) = true ∧ plainB (s.extract (i + 1) s.size) = true)) : splitT s = (⟨#[]⟩, ⟨#[]⟩, false) := by
  unfold splitT; rw [if_neg (by rw [h]; decide), h1]; simp only; rw [if_neg h2]
theorem split_yes {s : ByteArray} {i : Nat} (h : plainB s = false) (h1 : splitI s = some i) (h2 : plainB (s.extract 0 i) = true) (h3 : plainB (s.extract (i + 1) s.size) = true) : splitT s = (s.extract 0 i, s.extract (i + 1) s.size, true) := by
  unfold splitT; rw [if_neg (by rw [h]; decide), h1]; simp only; rw [if_pos ⟨h2, h3⟩]
theorem ext_size {s : ByteArray} {i j : Nat} (h : s.size ≤ maxLen) : (s.extract i j).size ≤ maxLen := by rw [ByteArray.size_extract]; omega

/-! ### Two parts as a name -/
def joined (pre loc : ByteArray) : ByteArray := if pre.size = 0 then loc else pre ++ ⟨#[58]⟩ ++ loc
def joinB (pre loc : ByteArray) (x : ByteArray × ByteArray × Bool) : Bool := x.2.2 && (x.1.toList == pre.toList && x.2.1.toList == loc.toList)
def joinR (pre loc : ByteArray) : ByteArray := if joinB pre loc (splitT (joined pre loc)) = true then joined pre loc else ⟨#[]⟩
theorem join_yes {pre loc s a b : ByteArray} {ok : Bool} (hj : joined pre loc = s) (hT : splitT s = (a, b, ok)) (h : ok = true) (h1 : (a.toList == pre.toList) = true) (h2 : (b.toList == loc.toList) = true) : joinR pre loc = s := by
  unfold joinR joinB; rw [hj, hT]; simp only [h, h1, h2]; rfl
theorem join_no {pre loc s a b : ByteArray} {ok : Bool} (hj : joined pre loc = s) (hT : splitT s = (a, b, ok)) (h : ok = false ∨ (a.toList == pre.toList) = false ∨ (b.toList == loc.toList) = false) : joinR pre loc = ⟨#[]⟩ := by
  unfold joinR joinB; rw [hj, hT]; simp only
  rcases h with h | h | h <;> rw [h] <;> simp
theorem isEmpty_of {s : ByteArray} (h : s.size = 0) : s.toList.isEmpty = true := by
  rw [ByteArray.toList_eq]
  have hl : s.data.toList.length = s.size := Array.length_toList
  cases e : s.data.toList with
  | nil => rfl
  | cons x r => rw [e] at hl; simp at hl; omega
theorem isEmpty_no {s : ByteArray} (h : ¬ s.size = 0) : s.toList.isEmpty = false := by
  rw [ByteArray.toList_eq]
  have hl : s.data.toList.length = s.size := Array.length_toList
  cases e : s.data.toList with
  | nil => rw [e] at hl; simp at hl; omega
  | cons x r => rfl
theorem ret_str {a b : ByteArray} (h : a = b) : Ending.returned (.string a) = .returned (.string b) := by rw [h]

/-! ### The longest text of signs that may stand in a name, and colons -/
def nameB (n : Int) : Bool := n == 58 || partB n
def ends (s : ByteArray) : Nat → Nat → Nat
  | 0, pos => pos
  | f + 1, pos => if pos < s.size ∧ Utf8.decode s pos ≠ (65533, 1) ∧ nameB ((Utf8.decode s pos).1 : Int) = true then ends s f (pos + (Utf8.decode s pos).2) else pos
theorem ends_stop (s : ByteArray) (f pos : Nat) (h : ¬ (pos < s.size ∧ Utf8.decode s pos ≠ (65533, 1) ∧ nameB ((Utf8.decode s pos).1 : Int) = true)) : ends s f pos = pos := by
  cases f with
  | zero => rfl
  | succ f => rw [ends, if_neg h]
theorem ends_go (s : ByteArray) (f pos : Nat) (h : pos < s.size) (hf : s.size ≤ pos + f) (hb : Utf8.decode s pos ≠ (65533, 1)) (ho : nameB ((Utf8.decode s pos).1 : Int) = true) : ∃ g, ends s f pos = ends s g (pos + (Utf8.decode s pos).2) ∧ s.size ≤ pos + (Utf8.decode s pos).2 + g := by
  cases f with
  | zero => omega
  | succ f =>
    refine ⟨f, ?_, ?_⟩
    · rw [ends, if_pos ⟨h, hb, ho⟩]
    · have := dec.decode_pos s pos h; omega
def nameE (s : ByteArray) (i : Nat) : Nat := ends s s.size i
def n2 (s : ByteArray) (n : Int) : Value := .tuple #[.string s, .int .i64 n]
theorem ret_n2 {a b : ByteArray} {n m : Int} (h : a = b) (h1 : n = m) : Ending.returned (.tuple #[.string a, .int .i64 n]) = .returned (n2 b m) := by rw [h, h1]; rfl
end Go.Proofs.Ytpejcblmglbjfaa.names
