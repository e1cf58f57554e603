/-
  How the specification draws: the cursor over a draw's bytes. Each function returns, whatever the bytes are; but for the cursor's own block nothing that was there turns.
-/
import Derived.Test.YtpejcblmglbjfaaRows
import Derived.WalkKit
import Derived.ProofKit
import Derived.Outline
import Derived.LoopTactic
import Derived.OwnWalk
import Derived.Below
import Derived.Deep.QuietTactic
import Derived.BigQuiet
import Derived.WalkSmall
namespace Go.Proofs.Ytpejcblmglbjfaa.draws
open Go.ChangeShapes Go.WideShapes Go.ChangeAt Go.RowKit
set_option linter.unusedVariables false

/-! ### The plain part -/
theorem i64_and255 (n : Int) : bits .and .i64 n 255 = n % 256 := by
  have h63 : (BitVec.ofInt 64 255).toNat = 2 ^ 8 - 1 := by decide
  have key : (BitVec.ofInt 64 n &&& BitVec.ofInt 64 255).toNat = (n % ((2 ^ 64 : Nat) : Int)).toNat % 2 ^ 8 := by
    rw [BitVec.toNat_and, BitVec.toNat_ofInt, h63, Nat.and_two_pow_sub_one_eq_mod]
  show IntKind.i64.wrap ((BitVec.ofInt 64 n &&& BitVec.ofInt 64 255).toNat : Nat) = n % 256
  rw [key, IntKind.wrap_i64]
  omega

/-- Nothing that was there has turned, but for one block. -/
structure ButFor (cb : Nat) (w w' : World) : Prop where
  os : w'.os = w.os
  tape : w'.tape = w.tape
  output : w'.output = w.output
  size : w.heap.size ≤ w'.heap.size
  block : ∀ k, k < w.heap.size → k ≠ cb → w'.heap[k]? = w.heap[k]?
theorem ButFor.refl (cb : Nat) (w : World) : ButFor cb w w := ⟨rfl, rfl, rfl, Nat.le_refl _, fun _ _ _ => rfl⟩
theorem ButFor.trans {cb : Nat} {a b c : World} (h : ButFor cb a b) (k : ButFor cb b c) : ButFor cb a c :=
  ⟨k.os.trans h.os, k.tape.trans h.tape, k.output.trans h.output, Nat.le_trans h.size k.size, fun i hi hn => (k.block i (Nat.lt_of_lt_of_le hi h.size) hn).trans (h.block i hi hn)⟩
theorem ButFor.of_below {cb : Nat} {w w' : World} (h : Below w.heap.size w w') : ButFor cb w w' := ⟨h.os, h.tape, h.output, h.size, fun k hk _ => h.block k hk⟩
theorem ButFor.below {cb B : Nat} {w w' : World} (h : ButFor cb w w') (hB : B ≤ cb) (hc : cb ≤ w.heap.size) : Below B w w' := ⟨h.os, h.tape, h.output, h.size, fun k hk => h.block k (by omega) (by omega)⟩
theorem ButFor.drewN {cb : Nat} {a w : World} (h : ButFor cb a w) (n : Nat) : ButFor cb a (w.drewN n) := h.trans ⟨rfl, rfl, rfl, Nat.le_refl _, fun _ _ _ => rfl⟩
theorem ButFor.setCell {cb : Nat} {a w : World} (h : ButFor cb a w) (o : Nat) (u : Value) : ButFor cb a (w.setCell ⟨cb, o, none⟩ u) :=
  h.trans ⟨rfl, rfl, rfl, by simp [World.setCell], fun k _ hn => Below.heap_setCell w ⟨cb, o, none⟩ u k hn⟩
theorem ButFor.alloc {cb : Nat} {a w : World} (h : ButFor cb a w) (o : Obj) : ButFor cb a (w.alloc o) :=
  h.trans ⟨rfl, rfl, rfl, by show w.heap.size ≤ (w.heap.push _).size; simp, fun k hk _ => Below.heap_alloc w o k hk⟩
theorem ButFor.cell {cb : Nat} {w w' : World} (h : ButFor cb w w') {p : Addr} (hp : p.block < w.heap.size) (hn : p.block ≠ cb) : w'.cell? p = w.cell? p := World.cell?_of_block (w := w) (h.block p.block hp hn)
theorem ButFor.frozen {cb : Nat} {w w' : World} (h : ButFor cb w w') {p : Addr} (hp : p.block < w.heap.size) (hn : p.block ≠ cb) : w'.frozen? p = w.frozen? p := World.frozen?_of_block (w := w) (h.block p.block hp hn)

/-- The bytes of a draw, as they lie in memory. -/
structure RowAt (w : World) (a : Option Addr) (len : Nat) : Prop where
  short : len ≤ maxLen
  row : 0 < len → ∃ b off, a = some ⟨b, off, none⟩ ∧ b < w.heap.size ∧ ∀ j, j < len → ∃ z : Int, w.cell? ⟨b, off + j, none⟩ = some (.int .u8 z) ∧ 0 ≤ z ∧ z ≤ 255
theorem RowAt.stays {w w' : World} {a : Option Addr} {len : Nat} (h : RowAt w a len) (hs : w.heap.size ≤ w'.heap.size) (hk : 0 < len → ∀ b off, a = some ⟨b, off, none⟩ → b < w.heap.size → w'.heap[b]? = w.heap[b]?) : RowAt w' a len :=
  ⟨h.short, fun hl => by
    obtain ⟨b, off, ha, hb, hc⟩ := h.row hl
    refine ⟨b, off, ha, Nat.lt_of_lt_of_le hb hs, fun j hj => ?_⟩
    obtain ⟨z, hz, h0, h1⟩ := hc j hj
    exact ⟨z, by rw [World.cell?_of_block (w := w) (hk hl b off ha hb)]; exact hz, h0, h1⟩⟩

/-- A cursor in the block cb, over these bytes. -/
structure CurAt (w : World) (cb : Nat) (a : Option Addr) (len cap : Nat) : Prop where
  here : cb < w.heap.size
  c0 : w.cell? ⟨cb, 0, none⟩ = some (.slice a len cap)
  c1 : ∃ i : Nat, i ≤ len ∧ w.cell? ⟨cb, 1, none⟩ = some (.int .i64 i)
  c2 : ∃ h : Int, w.cell? ⟨cb, 2, none⟩ = some (.int .i64 h)
  f1 : w.frozen? ⟨cb, 1, none⟩ = false
  f2 : w.frozen? ⟨cb, 2, none⟩ = false
  row : RowAt w a len
  apart : 0 < len → ∀ b off, a = some ⟨b, off, none⟩ → b ≠ cb

theorem byte_end {cb i : Nat} {w : World} (y h : Int) (n : Nat) : ∃ (x h' : Int) (m : Nat), Ending.returned (Value.int .i64 (y % 256)) = .returned (.int .i64 x) ∧ 0 ≤ x ∧ x ≤ 255 ∧
    ((w.setCell ⟨cb, 2, none⟩ (.int .i64 h)).drewN n).setCell ⟨cb, 1, none⟩ (.int .i64 ((i : Int) + 1)) = ((w.setCell ⟨cb, 2, none⟩ (.int .i64 h')).drewN m).setCell ⟨cb, 1, none⟩ (.int .i64 ((i : Int) + 1)) :=
  ⟨y % 256, h, n, rfl, by omega, by omega, rfl⟩
theorem byte_end0 {cb : Nat} {w : World} (y h : Int) (n : Nat) : ∃ (x h' : Int) (m : Nat), Ending.returned (Value.int .i64 (y % 256)) = .returned (.int .i64 x) ∧ 0 ≤ x ∧ x ≤ 255 ∧
    (w.setCell ⟨cb, 2, none⟩ (.int .i64 h)).drewN n = (w.setCell ⟨cb, 2, none⟩ (.int .i64 h')).drewN m :=
  ⟨y % 256, h, n, rfl, by omega, by omega, rfl⟩
set_option maxHeartbeats 1000000 in
theorem byte_more (w : World) (cb b off len cap i : Nat) (h z : Int) (hlen : len ≤ maxLen) (c0 : w.cell? ⟨cb, 0, none⟩ = some (.slice (some ⟨b, off, none⟩) len cap)) (c1 : w.cell? ⟨cb, 1, none⟩ = some (.int .i64 i)) (c2 : w.cell? ⟨cb, 2, none⟩ = some (.int .i64 h))
    (f1 : w.frozen? ⟨cb, 1, none⟩ = false) (f2 : w.frozen? ⟨cb, 2, none⟩ = false) (hi : i < len) (hz : w.cell? ⟨b, off + i, none⟩ = some (.int .u8 z)) (z0 : 0 ≤ z) (z1 : z ≤ 255) (hn : b ≠ cb) :
    Calls Try.prog 87 #[.pointer (some ⟨cb, 0, none⟩)] w fun e w' => ∃ (x h' : Int) (n : Nat), e = .returned (.int .i64 x) ∧ 0 ≤ x ∧ x ≤ 255 ∧ w' = ((w.setCell ⟨cb, 2, none⟩ (.int .i64 h')).drewN n).setCell ⟨cb, 1, none⟩ (.int .i64 (i + 1)) := by
  unfold maxLen at hlen
  have hb := i64_and255
  have hi' : (i : Int) < len := by omega
  go_enter Try.func87, Try.ntmps87
  go_wp2
  go_quiet (fail)
  go_wp2
  go_quiet (fail)
  go_wp2
  go_quiet (fail)
  go_wp2
  go_ret
  exact byte_end _ _ _
set_option maxHeartbeats 1000000 in
theorem byte_done (w : World) (cb len cap : Nat) (a : Option Addr) (h : Int) (hlen : len ≤ maxLen) (c0 : w.cell? ⟨cb, 0, none⟩ = some (.slice a len cap)) (c1 : w.cell? ⟨cb, 1, none⟩ = some (.int .i64 len)) (c2 : w.cell? ⟨cb, 2, none⟩ = some (.int .i64 h))
    (f1 : w.frozen? ⟨cb, 1, none⟩ = false) (f2 : w.frozen? ⟨cb, 2, none⟩ = false) :
    Calls Try.prog 87 #[.pointer (some ⟨cb, 0, none⟩)] w fun e w' => ∃ (x h' : Int) (n : Nat), e = .returned (.int .i64 x) ∧ 0 ≤ x ∧ x ≤ 255 ∧ w' = (w.setCell ⟨cb, 2, none⟩ (.int .i64 h')).drewN n := by
  unfold maxLen at hlen
  have hb := i64_and255
  go_enter Try.func87, Try.ntmps87
  go_wp2
  go_quiet (fail)
  go_wp2
  go_quiet (fail)
  go_wp2
  go_ret
  simp only [World.drewN_drewN]
  exact byte_end0 _ _ _

theorem setCell_other (w : World) (a p : Addr) (v : Value) (h : a ≠ p) : (w.setCell a v).cell? p = w.cell? p := by first | exact World.cell?_setCell_other _ _ _ h | exact World.cell?_setCell_other _ _ _ _ h
theorem off_ne {cb i j : Nat} (h : i ≠ j) : (⟨cb, i, none⟩ : Addr) ≠ ⟨cb, j, none⟩ := by intro e; exact h (congrArg Addr.off e)
theorem CurAt.row_keeps {w w' : World} {cb len cap : Nat} {a : Option Addr} (hc : CurAt w cb a len cap) (hb : ButFor cb w w') : RowAt w' a len :=
  hc.row.stays hb.size fun h0 b off ha hlt => hb.block b hlt (hc.apart h0 b off ha)
/-- One byte of a draw: 0 .. 255; the cursor stays one. -/
theorem byte_any (w : World) (cb len cap : Nat) (a : Option Addr) (hc : CurAt w cb a len cap) :
    Calls Try.prog 87 #[.pointer (some ⟨cb, 0, none⟩)] w fun e w' => ∃ x : Int, e = .returned (.int .i64 x) ∧ 0 ≤ x ∧ x ≤ 255 ∧ CurAt w' cb a len cap ∧ ButFor cb w w' := by
  obtain ⟨i, hi, c1⟩ := hc.c1
  obtain ⟨h, c2⟩ := hc.c2
  by_cases hlt : i < len
  · obtain ⟨b, off, ha, hb, hz⟩ := hc.row.row (by omega)
    obtain ⟨z, hz, z0, z1⟩ := hz i hlt
    refine (byte_more w cb b off len cap i h z hc.row.short (by rw [← ha]; exact hc.c0) c1 c2 hc.f1 hc.f2 hlt hz z0 z1 (hc.apart (by omega) b off ha)).mono ?_
    rintro e w' ⟨x, h', n, he, h0, h1, rfl⟩
    have hbut : ButFor cb w (((w.setCell ⟨cb, 2, none⟩ (.int .i64 h')).drewN n).setCell ⟨cb, 1, none⟩ (.int .i64 (i + 1))) := (((ButFor.refl cb w).setCell 2 _).drewN n).setCell 1 _
    refine ⟨x, he, h0, h1, ⟨Nat.lt_of_lt_of_le hc.here hbut.size, ?_, ⟨i + 1, by omega, ?_⟩, ⟨h', ?_⟩, ?_, ?_, hc.row_keeps hbut, hc.apart⟩, hbut⟩
    · rw [setCell_other _ _ _ _ (off_ne (by decide))]
      show (w.setCell _ _).cell? _ = _
      rw [setCell_other _ _ _ _ (off_ne (by decide))]; exact hc.c0
    · refine World.cell?_setCell_same _ _ _ (u := .int .i64 i) ?_
      show (w.setCell _ _).cell? _ = _
      rw [setCell_other _ _ _ _ (off_ne (by decide))]; exact c1
    · rw [setCell_other _ _ _ _ (off_ne (by decide))]
      show (w.setCell _ _).cell? _ = _
      exact World.cell?_setCell_same _ _ _ c2
    · rw [World.frozen?_setCell]
      show (w.setCell _ _).frozen? _ = _
      rw [World.frozen?_setCell]; exact hc.f1
    · rw [World.frozen?_setCell]
      show (w.setCell _ _).frozen? _ = _
      rw [World.frozen?_setCell]; exact hc.f2
  · obtain rfl : i = len := by omega
    refine (byte_done w cb i cap a h hc.row.short hc.c0 c1 c2 hc.f1 hc.f2).mono ?_
    rintro e w' ⟨x, h', n, he, h0, h1, rfl⟩
    have hbut : ButFor cb w ((w.setCell ⟨cb, 2, none⟩ (.int .i64 h')).drewN n) := ((ButFor.refl cb w).setCell 2 _).drewN n
    refine ⟨x, he, h0, h1, ⟨Nat.lt_of_lt_of_le hc.here hbut.size, ?_, ⟨i, Nat.le_refl _, ?_⟩, ⟨h', ?_⟩, ?_, ?_, hc.row_keeps hbut, hc.apart⟩, hbut⟩
    · show (w.setCell _ _).cell? _ = _
      rw [setCell_other _ _ _ _ (off_ne (by decide))]; exact hc.c0
    · show (w.setCell _ _).cell? _ = _
      rw [setCell_other _ _ _ _ (off_ne (by decide))]; exact c1
    · show (w.setCell _ _).cell? _ = _
      exact World.cell?_setCell_same _ _ _ c2
    · show (w.setCell _ _).frozen? _ = _
      rw [World.frozen?_setCell]; exact hc.f1
    · show (w.setCell _ _).frozen? _ = _
      rw [World.frozen?_setCell]; exact hc.f2
/-- A cursor stays one where its block stays. -/
theorem CurAt.stays {w w' : World} {cb len cap : Nat} {a : Option Addr} (hc : CurAt w cb a len cap) {B : Nat} (hB : w.heap.size ≤ B) (hb : Below B w w') : CurAt w' cb a len cap := by
  have hl : cb < B := Nat.lt_of_lt_of_le hc.here hB
  have e : ∀ o, w'.cell? ⟨cb, o, none⟩ = w.cell? ⟨cb, o, none⟩ := fun o => hb.cell (p := ⟨cb, o, none⟩) hl
  have f : ∀ o, w'.frozen? ⟨cb, o, none⟩ = w.frozen? ⟨cb, o, none⟩ := fun o => hb.frozen (p := ⟨cb, o, none⟩) hl
  refine ⟨Nat.lt_of_lt_of_le hc.here hb.size, by rw [e]; exact hc.c0, ?_, ?_, by rw [f]; exact hc.f1, by rw [f]; exact hc.f2, hc.row.stays hb.size fun _ b off ha hlt => hb.block b (Nat.lt_of_lt_of_le hlt hB), hc.apart⟩
  · obtain ⟨i, hi, c⟩ := hc.c1; exact ⟨i, hi, by rw [e]; exact c⟩
  · obtain ⟨h, c⟩ := hc.c2; exact ⟨h, by rw [e]; exact c⟩

set_option maxHeartbeats 1000000 in
theorem below_no (w : World) (cb : Nat) (n : Int) (hn : n ≤ 0) : Calls Try.prog 55 #[.pointer (some ⟨cb, 0, none⟩), .int .i64 n] w fun e w' => e = .returned (.int .i64 0) ∧ w' = w := by
  go_enter Try.func55, Try.ntmps55
  go_wp2
  go_ret
  exact ⟨rfl, rfl⟩
theorem mod_end {w w' : World} {cb len cap : Nat} {a : Option Addr} {n y : Int} (h0 : 0 < n) (hc : CurAt w' cb a len cap) (hb : ButFor cb w w') : ∃ x : Int, Ending.returned (Value.int .i64 (y % n)) = .returned (.int .i64 x) ∧ 0 ≤ x ∧ x < n ∧ CurAt w' cb a len cap ∧ ButFor cb w w' :=
  ⟨y % n, rfl, Int.emod_nonneg _ (by omega), Int.emod_lt_of_pos _ h0, hc, hb⟩
set_option maxHeartbeats 1000000 in
theorem below_few (w : World) (cb len cap : Nat) (a : Option Addr) (n : Int) (h0 : 0 < n) (h1 : n ≤ 256) (HC : Hid (CurAt w cb a len cap)) : Calls Try.prog 55 #[.pointer (some ⟨cb, 0, none⟩), .int .i64 n] w fun e w' => ∃ x : Int, e = .returned (.int .i64 x) ∧ 0 ≤ x ∧ x < n ∧ CurAt w' cb a len cap ∧ ButFor cb w w' := by
  go_enter Try.func55, Try.ntmps55
  go_wp2_with (go_at_call 87; refine (byte_any _ _ _ _ _ HC.out).mono ?_; rintro e w1 ⟨x, rfl, hx0, hx1, hc1, hb1⟩)
  go_ret
  exact mod_end h0 hc1 hb1
set_option maxHeartbeats 2000000 in
theorem below_many (w : World) (cb len cap : Nat) (a : Option Addr) (n : Int) (h0 : 256 < n) (h1 : n ≤ 9223372036854775807) (HC : Hid (CurAt w cb a len cap)) : Calls Try.prog 55 #[.pointer (some ⟨cb, 0, none⟩), .int .i64 n] w fun e w' => ∃ x : Int, e = .returned (.int .i64 x) ∧ 0 ≤ x ∧ x < n ∧ CurAt w' cb a len cap ∧ ButFor cb w w' := by
  go_enter Try.func55, Try.ntmps55
  go_wp2_with fail
  refine (byte_any _ _ _ _ _ HC.out).mono ?_
  rintro e w1 ⟨x, rfl, hx0, hx1, hc1, hb1⟩
  have HC1 : Hid _ := hc1
  have HB1 : Hid _ := hb1
  clear hc1 hb1
  go_wp2_with fail
  refine (byte_any _ _ _ _ _ HC1.out).mono ?_
  rintro e w2 ⟨y, rfl, hy0, hy1, hc2, hb2⟩
  have HC2 : Hid _ := hc2
  have HB2 : Hid _ := hb2
  clear hc2 hb2
  go_wp2_with fail
  refine (byte_any _ _ _ _ _ HC2.out).mono ?_
  rintro e w3 ⟨z, rfl, hz0, hz1, hc3, hb3⟩
  have HC3 : Hid _ := hc3
  have HB3 : Hid _ := hb3
  clear hc3 hb3
  go_wp2
  go_ret
  exact mod_end (by omega) HC3.out ((HB1.out.trans HB2.out).trans HB3.out)
/-- A number below n (0, where n is not above 0). -/
theorem below_any (w : World) (cb len cap : Nat) (a : Option Addr) (n : Int) (hn : n ≤ 9223372036854775807) (hc : CurAt w cb a len cap) : Calls Try.prog 55 #[.pointer (some ⟨cb, 0, none⟩), .int .i64 n] w fun e w' => ∃ x : Int, e = .returned (.int .i64 x) ∧ 0 ≤ x ∧ (x < n ∨ x = 0 ∧ n ≤ 0) ∧ CurAt w' cb a len cap ∧ ButFor cb w w' := by
  by_cases h : n ≤ 0
  · exact (below_no w cb n h).mono fun e w' ⟨he, hw⟩ => ⟨0, he, by omega, .inr ⟨rfl, h⟩, by rw [hw]; exact hc, by rw [hw]; exact ButFor.refl _ _⟩
  · by_cases h1 : n ≤ 256
    · exact (below_few w cb len cap a n (by omega) h1 hc).mono fun e w' ⟨x, he, h0, h1, h2, h3⟩ => ⟨x, he, h0, .inl h1, h2, h3⟩
    · exact (below_many w cb len cap a n (by omega) hn hc).mono fun e w' ⟨x, he, h0, h1, h2, h3⟩ => ⟨x, he, h0, .inl h1, h2, h3⟩
end Go.Proofs.Ytpejcblmglbjfaa.draws
