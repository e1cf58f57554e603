/-
  How the specification draws, more: a new cursor, one out of a list, numbers.
-/
import Derived.Test.YtpejcblmglbjfaaDraw
namespace Go.Proofs.Ytpejcblmglbjfaa.draws
open Go.ChangeShapes Go.WideShapes Go.ChangeAt Go.RowKit
set_option linter.unusedVariables false

theorem i64_and30 (n : Int) : bits .and .i64 n 1073741823 = n % 1073741824 := by
  have h63 : (BitVec.ofInt 64 1073741823).toNat = 2 ^ 30 - 1 := by decide
  have key : (BitVec.ofInt 64 n &&& BitVec.ofInt 64 1073741823).toNat = (n % ((2 ^ 64 : Nat) : Int)).toNat % 2 ^ 30 := by
    rw [BitVec.toNat_and, BitVec.toNat_ofInt, h63, Nat.and_two_pow_sub_one_eq_mod]
  show IntKind.i64.wrap ((BitVec.ofInt 64 n &&& BitVec.ofInt 64 1073741823).toNat : Nat) = n % 1073741824
  rw [key, IntKind.wrap_i64]
  omega
theorem new_end {w : World} {len cap : Nat} {a : Option Addr} (h : Int) (hr : RowAt w a len) : ∃ cb, Ending.returned (Value.pointer (some ⟨w.heap.size, 0, none⟩)) = .returned (.pointer (some ⟨cb, 0, none⟩)) ∧ cb = w.heap.size ∧
    CurAt (w.alloc (.cells #[.slice a len cap, .int .i64 0, .int .i64 h] 103)) cb a len cap ∧ Below w.heap.size w (w.alloc (.cells #[.slice a len cap, .int .i64 0, .int .i64 h] 103)) := by
  have hb : Below w.heap.size w (w.alloc (.cells #[.slice a len cap, .int .i64 0, .int .i64 h] 103)) := (Below.refl _ _).alloc (Nat.le_refl _) _
  refine ⟨w.heap.size, rfl, rfl, ⟨by simp, by simp, ⟨0, Nat.zero_le _, by simp⟩, ⟨h, by simp⟩, by simp, by simp, hr.stays hb.size fun _ b off ha hlt => hb.block b hlt, fun h0 b off ha => ?_⟩, hb⟩
  obtain ⟨b', off', ha', hb', _⟩ := hr.row h0
  rw [ha] at ha'
  simp at ha'
  omega
set_option maxRecDepth 100000 in
set_option maxHeartbeats 1000000 in
theorem new_any (w : World) (len cap : Nat) (a : Option Addr) (hz : len ≤ 1048576) (hr : Hid (RowAt w a len)) :
    Calls Try.prog 46 #[.slice a len cap] w fun e w' => ∃ cb, e = .returned (.pointer (some ⟨cb, 0, none⟩)) ∧ cb = w.heap.size ∧ CurAt w' cb a len cap ∧ Below w.heap.size w w' := by
  have hb := i64_and30
  go_enter Try.func46, Try.ntmps46
  go_wp2
  go_loop [3, 4] (fun h t => ∃ (H : Int) (i : Nat), i ≤ len ∧ t = .int .i64 i ∧ h = .int .i64 H ∧ 0 ≤ H ∧ H ≤ 2000000000) (fun _ t => len - (intOf t).toNat)
  case atStart => exact ⟨_, 0, Nat.zero_le _, rfl, rfl, by omega, by omega⟩
  case round =>
    obtain ⟨H, i, hi, rfl, rfl, h0, h1⟩ := hrel
    by_cases hlt : i < len
    · by_cases h4 : i < 4000
      · obtain ⟨b, off, ha, hbl, hz⟩ := hr.out.row (by omega)
        obtain ⟨z, hz, z0, z1⟩ := hz i hlt
        subst ha
        have h4' : (i : Int) < 4000 := by omega
        have hlt' : (i : Int) < len := by omega
        go_wp2
        go_round
        case rel => exact ⟨_, i + 1, by omega, by go_num, rfl, by omega, by omega⟩
        case measure => simp [intOf]; omega
      · have h4' : (4000 : Int) ≤ i := by omega
        have hlt' : (i : Int) < len := by omega
        go_wp2
        go_ret
        exact new_end _ hr.out
    · have hlt' : (len : Int) ≤ i := by omega
      go_wp2
      go_ret
      exact new_end _ hr.out
theorem CurAt.alloc {w : World} {cb len cap : Nat} {a : Option Addr} (hc : CurAt w cb a len cap) (o : Obj) : CurAt (w.alloc o) cb a len cap := hc.stays (Nat.le_refl _) ((Below.refl _ _).alloc (Nat.le_refl _) o)
theorem once_end {w w' : World} {cb len cap : Nat} {a : Option Addr} {b : Bool} (hc : CurAt w' cb a len cap) (hb : ButFor cb w w') : ∃ b' : Bool, Ending.returned (.bool b) = .returned (.bool b') ∧ CurAt w' cb a len cap ∧ ButFor cb w w' := ⟨b, rfl, hc, hb⟩
set_option maxHeartbeats 1000000 in
theorem once_any (w : World) (cb len cap : Nat) (a : Option Addr) (n : Int) (hn : n ≤ 9223372036854775807) (HC : Hid (CurAt w cb a len cap)) : Calls Try.prog 56 #[.pointer (some ⟨cb, 0, none⟩), .int .i64 n] w fun e w' => ∃ b : Bool, e = .returned (.bool b) ∧ CurAt w' cb a len cap ∧ ButFor cb w w' := by
  go_enter Try.func56, Try.ntmps56
  go_wp2_with fail
  refine (below_any _ _ _ _ _ _ hn HC.out).mono ?_
  rintro e w1 ⟨x, rfl, hx0, hx1, hc1, hb1⟩
  have HC1 : Hid _ := hc1
  have HB1 : Hid _ := hb1
  clear hc1 hb1
  go_wp2
  go_ret
  exact once_end HC1.out HB1.out
theorem pick_end {w w' : World} {cb len cap m : Nat} {a : Option Addr} {v : Value} (V : Nat → Value) (j : Nat) (hj : j < m) (hv : v = V j) (hc : CurAt w' cb a len cap) (hb : ButFor cb w w') : ∃ j, j < m ∧ Ending.returned v = .returned (V j) ∧ CurAt w' cb a len cap ∧ ButFor cb w w' := ⟨j, hj, by rw [hv], hc, hb⟩
set_option maxHeartbeats 1000000 in
theorem int_any (w : World) (cb len cap lb m c : Nat) (a : Option Addr) (zs : Nat → Int) (hm0 : 0 < m) (hm : m ≤ 1000000) (hlb : lb < w.heap.size) (hne : lb ≠ cb) (hcell : Hid (∀ j, j < m → w.cell? ⟨lb, j, none⟩ = some (.int .i64 (zs j)))) (HC : Hid (CurAt w cb a len cap)) :
    Calls Try.prog 64 #[.pointer (some ⟨cb, 0, none⟩), .slice (some ⟨lb, 0, none⟩) m c] w fun e w' => ∃ j, j < m ∧ e = .returned (.int .i64 (zs j)) ∧ CurAt w' cb a len cap ∧ ButFor cb w w' := by
  go_enter Try.func64, Try.ntmps64
  go_wp2_with fail
  refine (below_any _ _ _ _ _ _ (by omega) HC.out).mono ?_
  rintro e w1 ⟨x, rfl, hx0, hx1, hc1, hb1⟩
  obtain ⟨j, rfl⟩ : ∃ j : Nat, x = j := ⟨x.toNat, by omega⟩
  have hj : j < m := by omega
  have hj' : (j : Int) < m := by omega
  have hz : w1.cell? ⟨lb, j, none⟩ = some (.int .i64 (zs j)) := by rw [hb1.cell (p := ⟨lb, j, none⟩) hlb hne]; exact hcell.out j hj
  have HC1 : Hid _ := hc1
  have HB1 : Hid _ := hb1
  clear hc1 hb1 hx1
  obtain ⟨z, ez⟩ : ∃ z, z = zs j := ⟨_, rfl⟩
  rw [← ez] at hz
  have EZ : Hid (z = zs j) := ez
  clear ez
  go_wp2
  go_ret
  exact pick_end (fun j => .int .i64 (zs j)) j hj (by rw [← EZ.out]; rfl) HC1.out HB1.out
set_option maxHeartbeats 1000000 in
theorem str_any (w : World) (cb len cap lb m c : Nat) (a : Option Addr) (ss : Nat → ByteArray) (hm0 : 0 < m) (hm : m ≤ 1000000) (hlb : lb < w.heap.size) (hne : lb ≠ cb) (hcell : Hid (∀ j, j < m → w.cell? ⟨lb, j, none⟩ = some (.string (ss j)))) (HC : Hid (CurAt w cb a len cap)) :
    Calls Try.prog 88 #[.pointer (some ⟨cb, 0, none⟩), .slice (some ⟨lb, 0, none⟩) m c] w fun e w' => ∃ j, j < m ∧ e = .returned (.string (ss j)) ∧ CurAt w' cb a len cap ∧ ButFor cb w w' := by
  go_enter Try.func88, Try.ntmps88
  go_wp2_with fail
  refine (below_any _ _ _ _ _ _ (by omega) HC.out).mono ?_
  rintro e w1 ⟨x, rfl, hx0, hx1, hc1, hb1⟩
  obtain ⟨j, rfl⟩ : ∃ j : Nat, x = j := ⟨x.toNat, by omega⟩
  have hj : j < m := by omega
  have hj' : (j : Int) < m := by omega
  have hz : w1.cell? ⟨lb, j, none⟩ = some (.string (ss j)) := by rw [hb1.cell (p := ⟨lb, j, none⟩) hlb hne]; exact hcell.out j hj
  have HC1 : Hid _ := hc1
  have HB1 : Hid _ := hb1
  clear hc1 hb1 hx1
  obtain ⟨z, ez⟩ : ∃ z, z = ss j := ⟨_, rfl⟩
  rw [← ez] at hz
  have EZ : Hid (z = ss j) := ez
  clear ez
  go_wp2
  go_ret
  exact pick_end (fun j => .string (ss j)) j hj (by rw [← EZ.out]; rfl) HC1.out HB1.out
theorem cell_new (w : World) (C : Array Value) (t : TypeId) (i : Nat) (v : Value) (h : C[i]? = some v) : (w.alloc (.cells C t)).cell? ⟨w.heap.size, i, none⟩ = some v := by simp [h]
/-- One out of a list of numbers that the caller has just laid. -/
theorem int_new (w : World) (cb len cap m c : Nat) (a : Option Addr) (zs : List Int) (C : Array Value) (t : TypeId) (hC : C = (zs.map (Value.int .i64)).toArray) (hz : m = zs.length) (hm0 : 0 < m) (hm : m ≤ 1000000) (hc : CurAt w cb a len cap) :
    Calls Try.prog 64 #[.pointer (some ⟨cb, 0, none⟩), .slice (some ⟨w.heap.size, 0, none⟩) m c] (w.alloc (.cells C t)) fun e w' => ∃ z, z ∈ zs ∧ e = .returned (.int .i64 z) ∧ CurAt w' cb a len cap ∧ ButFor cb w w' := by
  refine (int_any _ cb len cap w.heap.size m c a (fun j => zs.getD j 0) hm0 hm (by simp) (by have := hc.here; omega) (fun j hj => cell_new w C t j _ ?_) (hc.alloc _)).mono ?_
  · have hj' : j < zs.length := by omega
    rw [hC]; simp [List.getD, hj']
  · rintro e w' ⟨j, hj, he, h1, h2⟩
    refine ⟨_, ?_, he, h1, (ButFor.of_below ((Below.refl _ _).alloc (Nat.le_refl _) _)).trans h2⟩
    have hj' : j < zs.length := by omega
    simp [List.getD, hj']
theorem str_new (w : World) (cb len cap m c : Nat) (a : Option Addr) (ss : List ByteArray) (C : Array Value) (t : TypeId) (hC : C = (ss.map Value.string).toArray) (hz : m = ss.length) (hm0 : 0 < m) (hm : m ≤ 1000000) (hc : CurAt w cb a len cap) :
    Calls Try.prog 88 #[.pointer (some ⟨cb, 0, none⟩), .slice (some ⟨w.heap.size, 0, none⟩) m c] (w.alloc (.cells C t)) fun e w' => ∃ s, s ∈ ss ∧ e = .returned (.string s) ∧ CurAt w' cb a len cap ∧ ButFor cb w w' := by
  refine (str_any _ cb len cap w.heap.size m c a (fun j => ss.getD j ByteArray.empty) hm0 hm (by simp) (by have := hc.here; omega) (fun j hj => cell_new w C t j _ ?_) (hc.alloc _)).mono ?_
  · have hj' : j < ss.length := by omega
    rw [hC]; simp [List.getD, hj']
  · rintro e w' ⟨j, hj, he, h1, h2⟩
    refine ⟨_, ?_, he, h1, (ButFor.of_below ((Below.refl _ _).alloc (Nat.le_refl _) _)).trans h2⟩
    have hj' : j < ss.length := by omega
    simp [List.getD, hj']
end Go.Proofs.Ytpejcblmglbjfaa.draws
