/-
  What stands where in a text: beginnings, and what goes up to an end, of the specification.
-/
import Derived.Test.YtekbpekfomblbaaGreatDoorRef4
import Derived.Test.YtekbpekfomblbaaGreatDoorBlanksP
namespace Go.Proofs.YtekbpekfomblbaaGreatDoor.cuts
open Go.ChangeShapes Go.WideShapes Go.ChangeAt Go.RowKit
open names (splitT nameE t3 n2)
open marks (blanksE)
set_option linter.unusedVariables false
/-- t stands at k. -/
def isAt (s t : ByteArray) (k : Nat) : Bool := decide (k + t.size ≤ s.size) && ((s.extract k (k + t.size)).toList == t.toList)
theorem isAt_out {s t : ByteArray} {k : Nat} (h : ¬ k + t.size ≤ s.size) : isAt s t k = false := by unfold isAt; rw [decide_eq_false h]; rfl
theorem isAt_in {s t : ByteArray} {k : Nat} (h : k + t.size ≤ s.size) : isAt s t k = ((s.extract k (k + t.size)).toList == t.toList) := by unfold isAt; rw [decide_eq_true h, Bool.true_and]
/-- Where t stands first, from k on. -/
def toF (s t : ByteArray) : Nat → Nat → Option Nat
  | 0, _ => none
  | f + 1, k => if k + t.size ≤ s.size then (if isAt s t k = true then some k else toF s t f (k + 1)) else none
def toI (s t : ByteArray) (k : Nat) : Option Nat := toF s t (s.size + 1) k
theorem toF_out {s t : ByteArray} {f k : Nat} (h : ¬ k + t.size ≤ s.size) : toF s t f k = none := by
  cases f with
  | zero => rfl
  | succ f => rw [toF, if_neg h]
theorem toF_hit {s t : ByteArray} {f k : Nat} (h : k + t.size ≤ s.size) (hf : s.size < k + f) (hb : isAt s t k = true) : toF s t f k = some k := by
  cases f with
  | zero => omega
  | succ f => rw [toF, if_pos h, if_pos hb]
theorem toF_go {s t : ByteArray} {f k : Nat} (h : k + t.size ≤ s.size) (hf : s.size < k + f) (hb : isAt s t k = false) : ∃ g, toF s t f k = toF s t g (k + 1) ∧ s.size < k + 1 + g := by
  cases f with
  | zero => omega
  | succ f => exact ⟨f, by rw [toF, if_pos h, if_neg (by rw [hb]; decide)], by omega⟩
def toR (s t : ByteArray) (a : Nat) : ByteArray × Int :=
  match toI s t a with
  | none => (⟨#[]⟩, -1)
  | some j => (s.extract a j, ((j + t.size : Nat) : Int))
theorem toR_none {s t : ByteArray} {a : Nat} (h : toI s t a = none) : toR s t a = (⟨#[]⟩, -1) := by unfold toR; rw [h]
theorem toR_some {s t : ByteArray} {a j : Nat} (h : toI s t a = some j) : toR s t a = (s.extract a j, ((j + t.size : Nat) : Int)) := by unfold toR; rw [h]
/-- A name that stands there, and the place behind. -/
def nameR (s : ByteArray) (k : Nat) : ByteArray × Int := if (splitT (s.extract k (nameE s k))).2.2 = true then (s.extract k (nameE s k), (nameE s k : Int)) else (⟨#[]⟩, -1)
theorem cutI (s t : ByteArray) (k : Nat) (h : k + t.size ≤ s.size) (W : World) : (Instr.slice 9 (.string s) (some (.int .i64 (k : Int))) (some (.int .i64 ((k : Int) + (t.size : Int)))) none).run Tryz.prog W = .ok (.string (s.extract k (k + t.size))) W := escs.cut s k (k + t.size) (by omega) h W
set_option maxHeartbeats 1000000 in
theorem spec_is (s t : ByteArray) (k : Nat) (w : World) (hs : s.size ≤ 1048576) (ht : t.size ≤ 1000) (hk : k ≤ s.size) : Calls Tryz.prog 42 #[.string s, .int .i64 k, .string t] w fun e w' => e = .returned (.bool (isAt s t k)) ∧ w' = w := by
  by_cases h : k + t.size ≤ s.size
  · have hc := cutI s t k h
    have h1 : (k : Int) ≤ (s.size : Int) - t.size := by omega
    rw [isAt_in h]
    go_enter Tryz.func42, Tryz.ntmps42
    go_wp2
    go_ret
    exact ⟨rfl, rfl⟩
  · have h1 : ¬ (k : Int) ≤ (s.size : Int) - t.size := by omega
    rw [isAt_out h]
    go_enter Tryz.func42, Tryz.ntmps42
    go_wp2
    go_ret
    exact ⟨rfl, rfl⟩
theorem ret_to {x y : ByteArray} {n m : Int} (h : x = y) (h1 : n = m) : Ending.returned (.tuple #[.string x, .int .i64 n]) = .returned (.tuple #[.string y, .int .i64 m]) := by rw [h, h1]
set_option maxRecDepth 100000 in
set_option maxHeartbeats 2000000 in
theorem spec_to (s t : ByteArray) (a : Nat) (w : World) (hs : s.size ≤ 1048576) (ht : t.size ≤ 1000) (ha : a ≤ s.size) : Calls Tryz.prog 43 #[.string s, .int .i64 a, .string t] w fun e w' => e = .returned (.tuple #[.string (toR s t a).1, .int .i64 (toR s t a).2]) ∧ w' = w := by
  go_enter Tryz.func43, Tryz.ntmps43
  go_wp2
  go_loopw [8] (fun v w' => ∃ k f : Nat, a ≤ k ∧ k ≤ s.size + 1 ∧ v = .int .i64 k ∧ Hid (toI s t a = toF s t f k) ∧ Hid (s.size < k + f) ∧ Hid (w' = w)) (fun v _ => s.size + 1 - (intOf v).toNat)
  case atStart => exact ⟨a, s.size + 1, Nat.le_refl _, by omega, rfl, rfl, by show s.size < a + (s.size + 1); omega, rfl⟩
  case round =>
    obtain ⟨k, f, hak, hk, rfl, hI, hf, hw⟩ := hrel
    by_cases h : k + t.size ≤ s.size
    · have hc := cutI s t k h
      have h1 : (k : Int) + t.size ≤ s.size := by omega
      have hca := escs.cut s a k hak (by omega)
      cases hb : isAt s t k
      · have HN : Hid (∃ g, toI s t a = toF s t g (k + 1) ∧ s.size < k + 1 + g) := by
          obtain ⟨g, hg, hl⟩ := toF_go h hf.out hb
          exact ⟨g, hI.out.trans hg, hl⟩
        have hb' := hb
        rw [isAt_in h] at hb'
        clear hb
        go_wp2
        go_roundw
        case rel =>
          obtain ⟨g, hg, hl⟩ := HN.out
          exact ⟨k + 1, g, by omega, by omega, by go_num, hg, hl, hw.out⟩
        case measure => simp [intOf]; omega
      · have HN : Hid (toI s t a = some k) := hI.out.trans (toF_hit h hf.out hb)
        have hb' := hb
        rw [isAt_in h] at hb'
        clear hb
        go_wp2
        go_ret2
        exact ⟨ret_to (by rw [toR_some HN.out]) (by rw [toR_some HN.out]; simp), hw.out⟩
    · have h1 : ¬ (k : Int) + t.size ≤ s.size := by omega
      have HN : Hid (toI s t a = none) := hI.out.trans (toF_out h)
      go_wp2
      go_ret2
      exact ⟨ret_to (by rw [toR_none HN.out]) (by rw [toR_none HN.out]), hw.out⟩
theorem split_at (s : ByteArray) (a b : ByteArray) (ok : Bool) (h : splitT s = (a, b, ok)) (hs : s.size ≤ maxLen) (w : World) : Calls Tryz.prog 69 #[.string s] w fun e w' => e = .returned (.tuple #[.string a, .string b, .bool ok]) ∧ Below w.heap.size w w' := by
  have := names.spec_split s w hs
  rw [h] at this
  exact this
set_option maxRecDepth 100000 in
set_option maxHeartbeats 1000000 in
theorem spec_name (s : ByteArray) (k : Nat) (w : World) (hs : s.size ≤ 1048576) (hk : k ≤ s.size) : Calls Tryz.prog 45 #[.string s, .int .i64 k] w fun e w' => e = .returned (.tuple #[.string (nameR s k).1, .int .i64 (nameR s k).2]) ∧ Below w.heap.size w w' := by
  obtain ⟨n, hn⟩ : ∃ n, s.extract k (nameE s k) = n := ⟨_, rfl⟩
  obtain ⟨x, y, ok, hsp⟩ : ∃ x y ok, splitT n = (x, y, ok) := ⟨_, _, _, rfl⟩
  have HNs : Hid (n.size ≤ maxLen) := by show _ ≤ _; rw [← hn]; exact names.ext_size (by unfold maxLen; omega)
  have HS : Hid _ := hsp
  have HN : Hid _ := hn
  have h1 := names.spec_name_in s k w (by unfold maxLen; omega) hk
  unfold n2 at h1
  rw [hn] at h1
  have H1 : Hid _ := h1
  have HE : Hid (nameR s k = if ok = true then (n, (nameE s k : Int)) else (⟨#[]⟩, -1)) := by show _ = _; unfold nameR; rw [hn, hsp]
  clear hsp hn h1
  go_enter Tryz.func45, Tryz.ntmps45
  go_wp2_with fail
  refine Calls.mono H1.out ?_
  rintro e w1 ⟨rfl, hb⟩
  have HB1 : Hid (Below w.heap.size w w1) := hb
  clear hb
  go_wp2_with fail
  refine (split_at n x y ok HS.out HNs.out _).mono ?_
  rintro e w2 ⟨rfl, hb⟩
  have HB2 : Hid (Below w.heap.size w w2) := HB1.out.trans (hb.mono HB1.out.size)
  clear hb
  cases ok
  · go_wp2
    go_ret2
    exact ⟨ret_to (by rw [HE.out]; rfl) (by rw [HE.out]; rfl), HB2.out⟩
  · go_wp2
    go_ret2
    exact ⟨ret_to (by rw [HE.out]; rfl) (by rw [HE.out]; rfl), HB2.out⟩
end Go.Proofs.YtekbpekfomblbaaGreatDoor.cuts
