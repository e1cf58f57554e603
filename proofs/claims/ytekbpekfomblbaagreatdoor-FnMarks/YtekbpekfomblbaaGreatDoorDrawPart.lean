/-
  How the specification draws: the cursor over a draw's bytes. Each function returns, whatever the bytes are; but for the cursor's own block nothing that was there turns.
  (Texts of ours laid as one: Draw, Draw2, Draw3, PairOwnEnt, DrawPairs, DrawRefs, Append8, Bend, DrawRow.)
-/
import Derived.Test.YtekbpekfomblbaaGreatDoorRows
import Derived.WalkKit
import Derived.ProofKit
import Derived.Outline
import Derived.LoopTactic
import Derived.OwnWalk
import Derived.Below
import Derived.Deep.QuietTactic
import Derived.BigQuiet
import Derived.WalkSmall
import Derived.Test.YtekbpekfomblbaaGreatDoorPairs
import Derived.Laws.OwnMore
import Derived.Laws.BytesArg
import Derived.Laws.IdiomCopy
import Derived.Deep.AppendSrc
import Derived.Deep.Upon
import Derived.Deep.RegionLaw
import Derived.Lib.ConvBytes
import Derived.Deep.RegionWith
import Derived.OpenShut
namespace Go.Proofs.YtekbpekfomblbaaGreatDoor.draws
open Go.ChangeShapes Go.WideShapes Go.ChangeAt Go.RowKit
set_option linter.unusedVariables false

/-! ### The plain part -/
theorem i64_and255 (n : Int) : bits .and .i64 n 255 = n % 256 := by
  have h63 : (BitVec.ofInt 64 255).toNat = 2 ^ 8 - 1 := by decide
  have key : (BitVec.ofInt 64 n &&& BitVec.ofInt 64 255).toNat = (n % ((2 ^ 64 : Nat) : Int)).toNat % 2 ^ 8 := by
    rw [BitVec.toNat_and, BitVec.toNat_ofInt, h63, Nat.and_two_pow_sub_one_eq_mod]
  show IntKind.i64.wrap ((BitVec.ofInt 64 n &&& BitVec.ofInt 64 255).toNat : Nat) = n % 256
  rw [key, IntKind.wrap_i64]
  omega

/-- Nothing that was there has turned, but for one block. -/
structure ButFor (cb : Nat) (w w' : World) : Prop where
  os : w'.os = w.os
  tape : w'.tape = w.tape
  output : w'.output = w.output
  size : w.heap.size ≤ w'.heap.size
  block : ∀ k, k < w.heap.size → k ≠ cb → w'.heap[k]? = w.heap[k]?
theorem ButFor.refl (cb : Nat) (w : World) : ButFor cb w w := ⟨rfl, rfl, rfl, Nat.le_refl _, fun _ _ _ => rfl⟩
theorem ButFor.trans {cb : Nat} {a b c : World} (h : ButFor cb a b) (k : ButFor cb b c) : ButFor cb a c :=
  ⟨k.os.trans h.os, k.tape.trans h.tape, k.output.trans h.output, Nat.le_trans h.size k.size, fun i hi hn => (k.block i (Nat.lt_of_lt_of_le hi h.size) hn).trans (h.block i hi hn)⟩
theorem ButFor.of_below {cb : Nat} {w w' : World} (h : Below w.heap.size w w') : ButFor cb w w' := ⟨h.os, h.tape, h.output, h.size, fun k hk _ => h.block k hk⟩
theorem ButFor.below {cb B : Nat} {w w' : World} (h : ButFor cb w w') (hB : B ≤ cb) (hc : cb ≤ w.heap.size) : Below B w w' := ⟨h.os, h.tape, h.output, h.size, fun k hk => h.block k (by omega) (by omega)⟩
theorem ButFor.drewN {cb : Nat} {a w : World} (h : ButFor cb a w) (n : Nat) : ButFor cb a (w.drewN n) := h.trans ⟨rfl, rfl, rfl, Nat.le_refl _, fun _ _ _ => rfl⟩
theorem ButFor.setCell {cb : Nat} {a w : World} (h : ButFor cb a w) (o : Nat) (u : Value) : ButFor cb a (w.setCell ⟨cb, o, none⟩ u) :=
  h.trans ⟨rfl, rfl, rfl, by simp [World.setCell], fun k _ hn => Below.heap_setCell w ⟨cb, o, none⟩ u k hn⟩
theorem ButFor.alloc {cb : Nat} {a w : World} (h : ButFor cb a w) (o : Obj) : ButFor cb a (w.alloc o) :=
  h.trans ⟨rfl, rfl, rfl, by show w.heap.size ≤ (w.heap.push _).size; simp, fun k hk _ => Below.heap_alloc w o k hk⟩
theorem ButFor.cell {cb : Nat} {w w' : World} (h : ButFor cb w w') {p : Addr} (hp : p.block < w.heap.size) (hn : p.block ≠ cb) : w'.cell? p = w.cell? p := World.cell?_of_block (w := w) (h.block p.block hp hn)
theorem ButFor.frozen {cb : Nat} {w w' : World} (h : ButFor cb w w') {p : Addr} (hp : p.block < w.heap.size) (hn : p.block ≠ cb) : w'.frozen? p = w.frozen? p := World.frozen?_of_block (w := w) (h.block p.block hp hn)

/-- The bytes of a draw, as they lie in memory. -/
structure RowAt (w : World) (a : Option Addr) (len : Nat) : Prop where
  short : len ≤ maxLen
  row : 0 < len → ∃ b off, a = some ⟨b, off, none⟩ ∧ b < w.heap.size ∧ ∀ j, j < len → ∃ z : Int, w.cell? ⟨b, off + j, none⟩ = some (.int .u8 z) ∧ 0 ≤ z ∧ z ≤ 255
theorem RowAt.stays {w w' : World} {a : Option Addr} {len : Nat} (h : RowAt w a len) (hs : w.heap.size ≤ w'.heap.size) (hk : 0 < len → ∀ b off, a = some ⟨b, off, none⟩ → b < w.heap.size → w'.heap[b]? = w.heap[b]?) : RowAt w' a len :=
  ⟨h.short, fun hl => by
    obtain ⟨b, off, ha, hb, hc⟩ := h.row hl
    refine ⟨b, off, ha, Nat.lt_of_lt_of_le hb hs, fun j hj => ?_⟩
    obtain ⟨z, hz, h0, h1⟩ := hc j hj
    exact ⟨z, by rw [World.cell?_of_block (w := w) (hk hl b off ha hb)]; exact hz, h0, h1⟩⟩

/-- A cursor in the block cb, over these bytes. -/
structure CurAt (w : World) (cb : Nat) (a : Option Addr) (len cap : Nat) : Prop where
  here : cb < w.heap.size
  c0 : w.cell? ⟨cb, 0, none⟩ = some (.slice a len cap)
  c1 : ∃ i : Nat, i ≤ len ∧ w.cell? ⟨cb, 1, none⟩ = some (.int .i64 i)
  c2 : ∃ h : Int, w.cell? ⟨cb, 2, none⟩ = some (.int .i64 h)
  f1 : w.frozen? ⟨cb, 1, none⟩ = false
  f2 : w.frozen? ⟨cb, 2, none⟩ = false
  row : RowAt w a len
  apart : 0 < len → ∀ b off, a = some ⟨b, off, none⟩ → b ≠ cb

theorem byte_end {cb i : Nat} {w : World} (y h : Int) (n : Nat) : ∃ (x h' : Int) (m : Nat), Ending.returned (Value.int .i64 (y % 256)) = .returned (.int .i64 x) ∧ 0 ≤ x ∧ x ≤ 255 ∧
    ((w.setCell ⟨cb, 2, none⟩ (.int .i64 h)).drewN n).setCell ⟨cb, 1, none⟩ (.int .i64 ((i : Int) + 1)) = ((w.setCell ⟨cb, 2, none⟩ (.int .i64 h')).drewN m).setCell ⟨cb, 1, none⟩ (.int .i64 ((i : Int) + 1)) :=
  ⟨y % 256, h, n, rfl, by omega, by omega, rfl⟩
theorem byte_end0 {cb : Nat} {w : World} (y h : Int) (n : Nat) : ∃ (x h' : Int) (m : Nat), Ending.returned (Value.int .i64 (y % 256)) = .returned (.int .i64 x) ∧ 0 ≤ x ∧ x ≤ 255 ∧
    (w.setCell ⟨cb, 2, none⟩ (.int .i64 h)).drewN n = (w.setCell ⟨cb, 2, none⟩ (.int .i64 h')).drewN m :=
  ⟨y % 256, h, n, rfl, by omega, by omega, rfl⟩
set_option maxHeartbeats 1000000 in
theorem byte_more (w : World) (cb b off len cap i : Nat) (h z : Int) (hlen : len ≤ maxLen) (c0 : w.cell? ⟨cb, 0, none⟩ = some (.slice (some ⟨b, off, none⟩) len cap)) (c1 : w.cell? ⟨cb, 1, none⟩ = some (.int .i64 i)) (c2 : w.cell? ⟨cb, 2, none⟩ = some (.int .i64 h))
    (f1 : w.frozen? ⟨cb, 1, none⟩ = false) (f2 : w.frozen? ⟨cb, 2, none⟩ = false) (hi : i < len) (hz : w.cell? ⟨b, off + i, none⟩ = some (.int .u8 z)) (z0 : 0 ≤ z) (z1 : z ≤ 255) (hn : b ≠ cb) :
    Calls Tryz.prog 52 #[.pointer (some ⟨cb, 0, none⟩)] w fun e w' => ∃ (x h' : Int) (n : Nat), e = .returned (.int .i64 x) ∧ 0 ≤ x ∧ x ≤ 255 ∧ w' = ((w.setCell ⟨cb, 2, none⟩ (.int .i64 h')).drewN n).setCell ⟨cb, 1, none⟩ (.int .i64 (i + 1)) := by
  unfold maxLen at hlen
  have hb := i64_and255
  have hi' : (i : Int) < len := by omega
  go_enter Tryz.func52, Tryz.ntmps52
  go_wp2
  go_quiet (fail)
  go_wp2
  go_quiet (fail)
  go_wp2
  go_quiet (fail)
  go_wp2
  go_ret
  exact byte_end _ _ _
set_option maxHeartbeats 1000000 in
theorem byte_done (w : World) (cb len cap : Nat) (a : Option Addr) (h : Int) (hlen : len ≤ maxLen) (c0 : w.cell? ⟨cb, 0, none⟩ = some (.slice a len cap)) (c1 : w.cell? ⟨cb, 1, none⟩ = some (.int .i64 len)) (c2 : w.cell? ⟨cb, 2, none⟩ = some (.int .i64 h))
    (f1 : w.frozen? ⟨cb, 1, none⟩ = false) (f2 : w.frozen? ⟨cb, 2, none⟩ = false) :
    Calls Tryz.prog 52 #[.pointer (some ⟨cb, 0, none⟩)] w fun e w' => ∃ (x h' : Int) (n : Nat), e = .returned (.int .i64 x) ∧ 0 ≤ x ∧ x ≤ 255 ∧ w' = (w.setCell ⟨cb, 2, none⟩ (.int .i64 h')).drewN n := by
  unfold maxLen at hlen
  have hb := i64_and255
  go_enter Tryz.func52, Tryz.ntmps52
  go_wp2
  go_quiet (fail)
  go_wp2
  go_quiet (fail)
  go_wp2
  go_ret
  simp only [World.drewN_drewN]
  exact byte_end0 _ _ _

theorem setCell_other (w : World) (a p : Addr) (v : Value) (h : a ≠ p) : (w.setCell a v).cell? p = w.cell? p := by first | exact World.cell?_setCell_other _ _ _ h | exact World.cell?_setCell_other _ _ _ _ h
theorem off_ne {cb i j : Nat} (h : i ≠ j) : (⟨cb, i, none⟩ : Addr) ≠ ⟨cb, j, none⟩ := by intro e; exact h (congrArg Addr.off e)
theorem CurAt.row_keeps {w w' : World} {cb len cap : Nat} {a : Option Addr} (hc : CurAt w cb a len cap) (hb : ButFor cb w w') : RowAt w' a len :=
  hc.row.stays hb.size fun h0 b off ha hlt => hb.block b hlt (hc.apart h0 b off ha)
/-- One byte of a draw: 0 .. 255; the cursor stays one. -/
theorem byte_any (w : World) (cb len cap : Nat) (a : Option Addr) (hc : CurAt w cb a len cap) :
    Calls Tryz.prog 52 #[.pointer (some ⟨cb, 0, none⟩)] w fun e w' => ∃ x : Int, e = .returned (.int .i64 x) ∧ 0 ≤ x ∧ x ≤ 255 ∧ CurAt w' cb a len cap ∧ ButFor cb w w' := by
  obtain ⟨i, hi, c1⟩ := hc.c1
  obtain ⟨h, c2⟩ := hc.c2
  by_cases hlt : i < len
  · obtain ⟨b, off, ha, hb, hz⟩ := hc.row.row (by omega)
    obtain ⟨z, hz, z0, z1⟩ := hz i hlt
    refine (byte_more w cb b off len cap i h z hc.row.short (by rw [← ha]; exact hc.c0) c1 c2 hc.f1 hc.f2 hlt hz z0 z1 (hc.apart (by omega) b off ha)).mono ?_
    rintro e w' ⟨x, h', n, he, h0, h1, rfl⟩
    have hbut : ButFor cb w (((w.setCell ⟨cb, 2, none⟩ (.int .i64 h')).drewN n).setCell ⟨cb, 1, none⟩ (.int .i64 (i + 1))) := (((ButFor.refl cb w).setCell 2 _).drewN n).setCell 1 _
    refine ⟨x, he, h0, h1, ⟨Nat.lt_of_lt_of_le hc.here hbut.size, ?_, ⟨i + 1, by omega, ?_⟩, ⟨h', ?_⟩, ?_, ?_, hc.row_keeps hbut, hc.apart⟩, hbut⟩
    · rw [setCell_other _ _ _ _ (off_ne (by decide))]
      show (w.setCell _ _).cell? _ = _
      rw [setCell_other _ _ _ _ (off_ne (by decide))]; exact hc.c0
    · refine World.cell?_setCell_same _ _ _ (u := .int .i64 i) ?_
      show (w.setCell _ _).cell? _ = _
      rw [setCell_other _ _ _ _ (off_ne (by decide))]; exact c1
    · rw [setCell_other _ _ _ _ (off_ne (by decide))]
      show (w.setCell _ _).cell? _ = _
      exact World.cell?_setCell_same _ _ _ c2
    · rw [World.frozen?_setCell]
      show (w.setCell _ _).frozen? _ = _
      rw [World.frozen?_setCell]; exact hc.f1
    · rw [World.frozen?_setCell]
      show (w.setCell _ _).frozen? _ = _
      rw [World.frozen?_setCell]; exact hc.f2
  · obtain rfl : i = len := by omega
    refine (byte_done w cb i cap a h hc.row.short hc.c0 c1 c2 hc.f1 hc.f2).mono ?_
    rintro e w' ⟨x, h', n, he, h0, h1, rfl⟩
    have hbut : ButFor cb w ((w.setCell ⟨cb, 2, none⟩ (.int .i64 h')).drewN n) := ((ButFor.refl cb w).setCell 2 _).drewN n
    refine ⟨x, he, h0, h1, ⟨Nat.lt_of_lt_of_le hc.here hbut.size, ?_, ⟨i, Nat.le_refl _, ?_⟩, ⟨h', ?_⟩, ?_, ?_, hc.row_keeps hbut, hc.apart⟩, hbut⟩
    · show (w.setCell _ _).cell? _ = _
      rw [setCell_other _ _ _ _ (off_ne (by decide))]; exact hc.c0
    · show (w.setCell _ _).cell? _ = _
      rw [setCell_other _ _ _ _ (off_ne (by decide))]; exact c1
    · show (w.setCell _ _).cell? _ = _
      exact World.cell?_setCell_same _ _ _ c2
    · show (w.setCell _ _).frozen? _ = _
      rw [World.frozen?_setCell]; exact hc.f1
    · show (w.setCell _ _).frozen? _ = _
      rw [World.frozen?_setCell]; exact hc.f2
/-- A cursor stays one where its block stays. -/
theorem CurAt.stays {w w' : World} {cb len cap : Nat} {a : Option Addr} (hc : CurAt w cb a len cap) {B : Nat} (hB : w.heap.size ≤ B) (hb : Below B w w') : CurAt w' cb a len cap := by
  have hl : cb < B := Nat.lt_of_lt_of_le hc.here hB
  have e : ∀ o, w'.cell? ⟨cb, o, none⟩ = w.cell? ⟨cb, o, none⟩ := fun o => hb.cell (p := ⟨cb, o, none⟩) hl
  have f : ∀ o, w'.frozen? ⟨cb, o, none⟩ = w.frozen? ⟨cb, o, none⟩ := fun o => hb.frozen (p := ⟨cb, o, none⟩) hl
  refine ⟨Nat.lt_of_lt_of_le hc.here hb.size, by rw [e]; exact hc.c0, ?_, ?_, by rw [f]; exact hc.f1, by rw [f]; exact hc.f2, hc.row.stays hb.size fun _ b off ha hlt => hb.block b (Nat.lt_of_lt_of_le hlt hB), hc.apart⟩
  · obtain ⟨i, hi, c⟩ := hc.c1; exact ⟨i, hi, by rw [e]; exact c⟩
  · obtain ⟨h, c⟩ := hc.c2; exact ⟨h, by rw [e]; exact c⟩

set_option maxHeartbeats 1000000 in
theorem below_no (w : World) (cb : Nat) (n : Int) (hn : n ≤ 0) : Calls Tryz.prog 27 #[.pointer (some ⟨cb, 0, none⟩), .int .i64 n] w fun e w' => e = .returned (.int .i64 0) ∧ w' = w := by
  go_enter Tryz.func27, Tryz.ntmps27
  go_wp2
  go_ret
  exact ⟨rfl, rfl⟩
theorem mod_end {w w' : World} {cb len cap : Nat} {a : Option Addr} {n y : Int} (h0 : 0 < n) (hc : CurAt w' cb a len cap) (hb : ButFor cb w w') : ∃ x : Int, Ending.returned (Value.int .i64 (y % n)) = .returned (.int .i64 x) ∧ 0 ≤ x ∧ x < n ∧ CurAt w' cb a len cap ∧ ButFor cb w w' :=
  ⟨y % n, rfl, Int.emod_nonneg _ (by omega), Int.emod_lt_of_pos _ h0, hc, hb⟩
set_option maxHeartbeats 1000000 in
theorem below_few (w : World) (cb len cap : Nat) (a : Option Addr) (n : Int) (h0 : 0 < n) (h1 : n ≤ 256) (HC : Hid (CurAt w cb a len cap)) : Calls Tryz.prog 27 #[.pointer (some ⟨cb, 0, none⟩), .int .i64 n] w fun e w' => ∃ x : Int, e = .returned (.int .i64 x) ∧ 0 ≤ x ∧ x < n ∧ CurAt w' cb a len cap ∧ ButFor cb w w' := by
  go_enter Tryz.func27, Tryz.ntmps27
  go_wp2_with (go_at_call 52; refine (byte_any _ _ _ _ _ HC.out).mono ?_; rintro e w1 ⟨x, rfl, hx0, hx1, hc1, hb1⟩)
  go_ret
  exact mod_end h0 hc1 hb1
set_option maxHeartbeats 2000000 in
theorem below_many (w : World) (cb len cap : Nat) (a : Option Addr) (n : Int) (h0 : 256 < n) (h1 : n ≤ 9223372036854775807) (HC : Hid (CurAt w cb a len cap)) : Calls Tryz.prog 27 #[.pointer (some ⟨cb, 0, none⟩), .int .i64 n] w fun e w' => ∃ x : Int, e = .returned (.int .i64 x) ∧ 0 ≤ x ∧ x < n ∧ CurAt w' cb a len cap ∧ ButFor cb w w' := by
  go_enter Tryz.func27, Tryz.ntmps27
  go_wp2_with fail
  refine (byte_any _ _ _ _ _ HC.out).mono ?_
  rintro e w1 ⟨x, rfl, hx0, hx1, hc1, hb1⟩
  have HC1 : Hid _ := hc1
  have HB1 : Hid _ := hb1
  clear hc1 hb1
  go_wp2_with fail
  refine (byte_any _ _ _ _ _ HC1.out).mono ?_
  rintro e w2 ⟨y, rfl, hy0, hy1, hc2, hb2⟩
  have HC2 : Hid _ := hc2
  have HB2 : Hid _ := hb2
  clear hc2 hb2
  go_wp2_with fail
  refine (byte_any _ _ _ _ _ HC2.out).mono ?_
  rintro e w3 ⟨z, rfl, hz0, hz1, hc3, hb3⟩
  have HC3 : Hid _ := hc3
  have HB3 : Hid _ := hb3
  clear hc3 hb3
  go_wp2
  go_ret
  exact mod_end (by omega) HC3.out ((HB1.out.trans HB2.out).trans HB3.out)
/-- A number below n (0, where n is not above 0). -/
theorem below_any (w : World) (cb len cap : Nat) (a : Option Addr) (n : Int) (hn : n ≤ 9223372036854775807) (hc : CurAt w cb a len cap) : Calls Tryz.prog 27 #[.pointer (some ⟨cb, 0, none⟩), .int .i64 n] w fun e w' => ∃ x : Int, e = .returned (.int .i64 x) ∧ 0 ≤ x ∧ (x < n ∨ x = 0 ∧ n ≤ 0) ∧ CurAt w' cb a len cap ∧ ButFor cb w w' := by
  by_cases h : n ≤ 0
  · exact (below_no w cb n h).mono fun e w' ⟨he, hw⟩ => ⟨0, he, by omega, .inr ⟨rfl, h⟩, by rw [hw]; exact hc, by rw [hw]; exact ButFor.refl _ _⟩
  · by_cases h1 : n ≤ 256
    · exact (below_few w cb len cap a n (by omega) h1 hc).mono fun e w' ⟨x, he, h0, h1, h2, h3⟩ => ⟨x, he, h0, .inl h1, h2, h3⟩
    · exact (below_many w cb len cap a n (by omega) hn hc).mono fun e w' ⟨x, he, h0, h1, h2, h3⟩ => ⟨x, he, h0, .inl h1, h2, h3⟩
end Go.Proofs.YtekbpekfomblbaaGreatDoor.draws
namespace Go.Proofs.YtekbpekfomblbaaGreatDoor.draws
open Go.ChangeShapes Go.WideShapes Go.ChangeAt Go.RowKit
set_option linter.unusedVariables false

theorem i64_and30 (n : Int) : bits .and .i64 n 1073741823 = n % 1073741824 := by
  have h63 : (BitVec.ofInt 64 1073741823).toNat = 2 ^ 30 - 1 := by decide
  have key : (BitVec.ofInt 64 n &&& BitVec.ofInt 64 1073741823).toNat = (n % ((2 ^ 64 : Nat) : Int)).toNat % 2 ^ 30 := by
    rw [BitVec.toNat_and, BitVec.toNat_ofInt, h63, Nat.and_two_pow_sub_one_eq_mod]
  show IntKind.i64.wrap ((BitVec.ofInt 64 n &&& BitVec.ofInt 64 1073741823).toNat : Nat) = n % 1073741824
  rw [key, IntKind.wrap_i64]
  omega
theorem new_end {w : World} {len cap : Nat} {a : Option Addr} (h : Int) (hr : RowAt w a len) : ∃ cb, Ending.returned (Value.pointer (some ⟨w.heap.size, 0, none⟩)) = .returned (.pointer (some ⟨cb, 0, none⟩)) ∧ cb = w.heap.size ∧
    CurAt (w.alloc (.cells #[.slice a len cap, .int .i64 0, .int .i64 h] 62)) cb a len cap ∧ Below w.heap.size w (w.alloc (.cells #[.slice a len cap, .int .i64 0, .int .i64 h] 62)) := by
  have hb : Below w.heap.size w (w.alloc (.cells #[.slice a len cap, .int .i64 0, .int .i64 h] 62)) := (Below.refl _ _).alloc (Nat.le_refl _) _
  refine ⟨w.heap.size, rfl, rfl, ⟨by simp, by simp, ⟨0, Nat.zero_le _, by simp⟩, ⟨h, by simp⟩, by simp, by simp, hr.stays hb.size fun _ b off ha hlt => hb.block b hlt, fun h0 b off ha => ?_⟩, hb⟩
  obtain ⟨b', off', ha', hb', _⟩ := hr.row h0
  rw [ha] at ha'
  simp at ha'
  omega
set_option maxRecDepth 100000 in
set_option maxHeartbeats 1000000 in
theorem new_any (w : World) (len cap : Nat) (a : Option Addr) (hz : len ≤ 1048576) (hr : Hid (RowAt w a len)) :
    Calls Tryz.prog 12 #[.slice a len cap] w fun e w' => ∃ cb, e = .returned (.pointer (some ⟨cb, 0, none⟩)) ∧ cb = w.heap.size ∧ CurAt w' cb a len cap ∧ Below w.heap.size w w' := by
  have hb := i64_and30
  go_enter Tryz.func12, Tryz.ntmps12
  go_wp2
  go_loop [3, 4] (fun h t => ∃ (H : Int) (i : Nat), i ≤ len ∧ t = .int .i64 i ∧ h = .int .i64 H ∧ 0 ≤ H ∧ H ≤ 2000000000) (fun _ t => len - (intOf t).toNat)
  case atStart => exact ⟨_, 0, Nat.zero_le _, rfl, rfl, by omega, by omega⟩
  case round =>
    obtain ⟨H, i, hi, rfl, rfl, h0, h1⟩ := hrel
    by_cases hlt : i < len
    · by_cases h4 : i < 4000
      · obtain ⟨b, off, ha, hbl, hz⟩ := hr.out.row (by omega)
        obtain ⟨z, hz, z0, z1⟩ := hz i hlt
        subst ha
        have h4' : (i : Int) < 4000 := by omega
        have hlt' : (i : Int) < len := by omega
        go_wp2
        go_round
        case rel => exact ⟨_, i + 1, by omega, by go_num, rfl, by omega, by omega⟩
        case measure => simp [intOf]; omega
      · have h4' : (4000 : Int) ≤ i := by omega
        have hlt' : (i : Int) < len := by omega
        go_wp2
        go_ret
        exact new_end _ hr.out
    · have hlt' : (len : Int) ≤ i := by omega
      go_wp2
      go_ret
      exact new_end _ hr.out
theorem CurAt.alloc {w : World} {cb len cap : Nat} {a : Option Addr} (hc : CurAt w cb a len cap) (o : Obj) : CurAt (w.alloc o) cb a len cap := hc.stays (Nat.le_refl _) ((Below.refl _ _).alloc (Nat.le_refl _) o)
theorem once_end {w w' : World} {cb len cap : Nat} {a : Option Addr} {b : Bool} (hc : CurAt w' cb a len cap) (hb : ButFor cb w w') : ∃ b' : Bool, Ending.returned (.bool b) = .returned (.bool b') ∧ CurAt w' cb a len cap ∧ ButFor cb w w' := ⟨b, rfl, hc, hb⟩
set_option maxHeartbeats 1000000 in
theorem once_any (w : World) (cb len cap : Nat) (a : Option Addr) (n : Int) (hn : n ≤ 9223372036854775807) (HC : Hid (CurAt w cb a len cap)) : Calls Tryz.prog 15 #[.pointer (some ⟨cb, 0, none⟩), .int .i64 n] w fun e w' => ∃ b : Bool, e = .returned (.bool b) ∧ CurAt w' cb a len cap ∧ ButFor cb w w' := by
  go_enter Tryz.func15, Tryz.ntmps15
  go_wp2_with fail
  refine (below_any _ _ _ _ _ _ hn HC.out).mono ?_
  rintro e w1 ⟨x, rfl, hx0, hx1, hc1, hb1⟩
  have HC1 : Hid _ := hc1
  have HB1 : Hid _ := hb1
  clear hc1 hb1
  go_wp2
  go_ret
  exact once_end HC1.out HB1.out
theorem pick_end {w w' : World} {cb len cap m : Nat} {a : Option Addr} {v : Value} (V : Nat → Value) (j : Nat) (hj : j < m) (hv : v = V j) (hc : CurAt w' cb a len cap) (hb : ButFor cb w w') : ∃ j, j < m ∧ Ending.returned v = .returned (V j) ∧ CurAt w' cb a len cap ∧ ButFor cb w w' := ⟨j, hj, by rw [hv], hc, hb⟩
set_option maxHeartbeats 1000000 in
theorem int_any (w : World) (cb len cap lb m c : Nat) (a : Option Addr) (zs : Nat → Int) (hm0 : 0 < m) (hm : m ≤ 1000000) (hlb : lb < w.heap.size) (hne : lb ≠ cb) (hcell : Hid (∀ j, j < m → w.cell? ⟨lb, j, none⟩ = some (.int .i64 (zs j)))) (HC : Hid (CurAt w cb a len cap)) :
    Calls Tryz.prog 17 #[.pointer (some ⟨cb, 0, none⟩), .slice (some ⟨lb, 0, none⟩) m c] w fun e w' => ∃ j, j < m ∧ e = .returned (.int .i64 (zs j)) ∧ CurAt w' cb a len cap ∧ ButFor cb w w' := by
  go_enter Tryz.func17, Tryz.ntmps17
  go_wp2_with fail
  refine (below_any _ _ _ _ _ _ (by omega) HC.out).mono ?_
  rintro e w1 ⟨x, rfl, hx0, hx1, hc1, hb1⟩
  obtain ⟨j, rfl⟩ : ∃ j : Nat, x = j := ⟨x.toNat, by omega⟩
  have hj : j < m := by omega
  have hj' : (j : Int) < m := by omega
  have hz : w1.cell? ⟨lb, j, none⟩ = some (.int .i64 (zs j)) := by rw [hb1.cell (p := ⟨lb, j, none⟩) hlb hne]; exact hcell.out j hj
  have HC1 : Hid _ := hc1
  have HB1 : Hid _ := hb1
  clear hc1 hb1 hx1
  obtain ⟨z, ez⟩ : ∃ z, z = zs j := ⟨_, rfl⟩
  rw [← ez] at hz
  have EZ : Hid (z = zs j) := ez
  clear ez
  go_wp2
  go_ret
  exact pick_end (fun j => .int .i64 (zs j)) j hj (by rw [← EZ.out]; rfl) HC1.out HB1.out
set_option maxHeartbeats 1000000 in
theorem str_any (w : World) (cb len cap lb m c : Nat) (a : Option Addr) (ss : Nat → ByteArray) (hm0 : 0 < m) (hm : m ≤ 1000000) (hlb : lb < w.heap.size) (hne : lb ≠ cb) (hcell : Hid (∀ j, j < m → w.cell? ⟨lb, j, none⟩ = some (.string (ss j)))) (HC : Hid (CurAt w cb a len cap)) :
    Calls Tryz.prog 13 #[.pointer (some ⟨cb, 0, none⟩), .slice (some ⟨lb, 0, none⟩) m c] w fun e w' => ∃ j, j < m ∧ e = .returned (.string (ss j)) ∧ CurAt w' cb a len cap ∧ ButFor cb w w' := by
  go_enter Tryz.func13, Tryz.ntmps13
  go_wp2_with fail
  refine (below_any _ _ _ _ _ _ (by omega) HC.out).mono ?_
  rintro e w1 ⟨x, rfl, hx0, hx1, hc1, hb1⟩
  obtain ⟨j, rfl⟩ : ∃ j : Nat, x = j := ⟨x.toNat, by omega⟩
  have hj : j < m := by omega
  have hj' : (j : Int) < m := by omega
  have hz : w1.cell? ⟨lb, j, none⟩ = some (.string (ss j)) := by rw [hb1.cell (p := ⟨lb, j, none⟩) hlb hne]; exact hcell.out j hj
  have HC1 : Hid _ := hc1
  have HB1 : Hid _ := hb1
  clear hc1 hb1 hx1
  obtain ⟨z, ez⟩ : ∃ z, z = ss j := ⟨_, rfl⟩
  rw [← ez] at hz
  have EZ : Hid (z = ss j) := ez
  clear ez
  go_wp2
  go_ret
  exact pick_end (fun j => .string (ss j)) j hj (by rw [← EZ.out]; rfl) HC1.out HB1.out
theorem cell_new (w : World) (C : Array Value) (t : TypeId) (i : Nat) (v : Value) (h : C[i]? = some v) : (w.alloc (.cells C t)).cell? ⟨w.heap.size, i, none⟩ = some v := by simp [h]
/-- One out of a list of numbers that the caller has just laid. -/
theorem int_new (w : World) (cb len cap m c : Nat) (a : Option Addr) (zs : List Int) (C : Array Value) (t : TypeId) (hC : C = (zs.map (Value.int .i64)).toArray) (hz : m = zs.length) (hm0 : 0 < m) (hm : m ≤ 1000000) (hc : CurAt w cb a len cap) :
    Calls Tryz.prog 17 #[.pointer (some ⟨cb, 0, none⟩), .slice (some ⟨w.heap.size, 0, none⟩) m c] (w.alloc (.cells C t)) fun e w' => ∃ z, z ∈ zs ∧ e = .returned (.int .i64 z) ∧ CurAt w' cb a len cap ∧ ButFor cb w w' := by
  refine (int_any _ cb len cap w.heap.size m c a (fun j => zs.getD j 0) hm0 hm (by simp) (by have := hc.here; omega) (fun j hj => cell_new w C t j _ ?_) (hc.alloc _)).mono ?_
  · have hj' : j < zs.length := by omega
    rw [hC]; simp [List.getD, hj']
  · rintro e w' ⟨j, hj, he, h1, h2⟩
    refine ⟨_, ?_, he, h1, (ButFor.of_below ((Below.refl _ _).alloc (Nat.le_refl _) _)).trans h2⟩
    have hj' : j < zs.length := by omega
    simp [List.getD, hj']
theorem str_new (w : World) (cb len cap m c : Nat) (a : Option Addr) (ss : List ByteArray) (C : Array Value) (t : TypeId) (hC : C = (ss.map Value.string).toArray) (hz : m = ss.length) (hm0 : 0 < m) (hm : m ≤ 1000000) (hc : CurAt w cb a len cap) :
    Calls Tryz.prog 13 #[.pointer (some ⟨cb, 0, none⟩), .slice (some ⟨w.heap.size, 0, none⟩) m c] (w.alloc (.cells C t)) fun e w' => ∃ s, s ∈ ss ∧ e = .returned (.string s) ∧ CurAt w' cb a len cap ∧ ButFor cb w w' := by
  refine (str_any _ cb len cap w.heap.size m c a (fun j => ss.getD j ByteArray.empty) hm0 hm (by simp) (by have := hc.here; omega) (fun j hj => cell_new w C t j _ ?_) (hc.alloc _)).mono ?_
  · have hj' : j < ss.length := by omega
    rw [hC]; simp [List.getD, hj']
  · rintro e w' ⟨j, hj, he, h1, h2⟩
    refine ⟨_, ?_, he, h1, (ButFor.of_below ((Below.refl _ _).alloc (Nat.le_refl _) _)).trans h2⟩
    have hj' : j < ss.length := by omega
    simp [List.getD, hj']
end Go.Proofs.YtekbpekfomblbaaGreatDoor.draws
namespace Go.Proofs.YtekbpekfomblbaaGreatDoor.draws
open Go.ChangeShapes Go.WideShapes Go.ChangeAt Go.RowKit
set_option linter.unusedVariables false

def textL : List ByteArray := [⟨#[97]⟩, ⟨#[98, 32, 99]⟩, ⟨#[32]⟩, ⟨#[10]⟩, ⟨#[195, 169]⟩, ⟨#[226, 130, 172]⟩, ⟨#[240, 159, 152, 128]⟩, ⟨#[60]⟩, ⟨#[38]⟩, ⟨#[62]⟩, ⟨#[34]⟩, ⟨#[39]⟩, ⟨#[93, 93, 62]⟩, ⟨#[45, 45]⟩, ⟨#[9]⟩, ⟨#[13]⟩, ⟨#[0]⟩, ⟨#[255]⟩, ⟨#[192, 128]⟩, ⟨#[239, 191, 190]⟩]
theorem textL_size : ∀ s ∈ textL, s.size ≤ 4 := by
  intro s hs
  simp only [textL, List.mem_cons, List.mem_nil_iff, or_false] at hs
  rcases hs with rfl | rfl | rfl | rfl | rfl | rfl | rfl | rfl | rfl | rfl | rfl | rfl | rfl | rfl | rfl | rfl | rfl | rfl | rfl | rfl <;> decide
theorem text_list (w : World) (cb len cap : Nat) (a : Option Addr) (hc : CurAt w cb a len cap) :
    Calls Tryz.prog 13 #[.pointer (some ⟨cb, 0, none⟩), .slice (some ⟨w.heap.size, 0, none⟩) 20 20] (w.alloc (.cells #[.string ⟨#[97]⟩, .string ⟨#[98, 32, 99]⟩, .string ⟨#[32]⟩, .string ⟨#[10]⟩, .string ⟨#[195, 169]⟩, .string ⟨#[226, 130, 172]⟩, .string ⟨#[240, 159, 152, 128]⟩, .string ⟨#[60]⟩, .string ⟨#[38]⟩, .string ⟨#[62]⟩, .string ⟨#[34]⟩, .string ⟨#[39]⟩, .string ⟨#[93, 93, 62]⟩, .string ⟨#[45, 45]⟩, .string ⟨#[9]⟩, .string ⟨#[13]⟩, .string ⟨#[0]⟩, .string ⟨#[255]⟩, .string ⟨#[192, 128]⟩, .string ⟨#[239, 191, 190]⟩] 9)) fun e w' => ∃ s, s ∈ textL ∧ e = .returned (.string s) ∧ CurAt w' cb a len cap ∧ ButFor cb w w' :=
  str_new w cb len cap 20 20 a textL _ 9 rfl rfl (by decide) (by decide) hc
theorem long_list (w : World) (cb len cap : Nat) (a : Option Addr) (hc : CurAt w cb a len cap) :
    Calls Tryz.prog 17 #[.pointer (some ⟨cb, 0, none⟩), .slice (some ⟨w.heap.size, 0, none⟩) 2 2] (w.alloc (.cells #[.int .i64 600, .int .i64 601] 3)) fun e w' => ∃ z, z ∈ [600, 601] ∧ e = .returned (.int .i64 z) ∧ CurAt w' cb a len cap ∧ ButFor cb w w' :=
  int_new w cb len cap 2 2 a [600, 601] _ 3 rfl rfl (by decide) (by decide) hc
def szOf : Value → Nat | .string s => s.size | _ => 0
theorem text_end {w w' : World} {cb len cap : Nat} {a : Option Addr} {s : ByteArray} (hs : s.size ≤ 700) (hc : CurAt w' cb a len cap) (hb : ButFor cb w w') : ∃ s' : ByteArray, Ending.returned (.string s) = .returned (.string s') ∧ s'.size ≤ 700 ∧ CurAt w' cb a len cap ∧ ButFor cb w w' := ⟨s, rfl, hs, hc, hb⟩
set_option maxRecDepth 100000 in
set_option maxHeartbeats 2000000 in
theorem text_any (w : World) (cb len cap : Nat) (a : Option Addr) (HC : Hid (CurAt w cb a len cap)) : Calls Tryz.prog 31 #[.pointer (some ⟨cb, 0, none⟩)] w fun e w' => ∃ s : ByteArray, e = .returned (.string s) ∧ s.size ≤ 700 ∧ CurAt w' cb a len cap ∧ ButFor cb w w' := by
  go_enter Tryz.func31, Tryz.ntmps31
  go_wp2_with fail
  refine (below_any _ _ _ _ _ _ (by omega) HC.out).mono ?_
  rintro e w1 ⟨x, rfl, hx0, hx1, hc1, hb1⟩
  have HC1 : Hid _ := hc1
  have HB1 : Hid _ := hb1
  have hx3 : x ≤ 3 := by omega
  clear hc1 hb1 hx1
  go_wp2_with fail
  go_loopw [3, 4] (fun v t w' => ∃ (s : ByteArray) (i : Nat), v = .string s ∧ t = .int .i64 i ∧ i ≤ 3 ∧ s.size + 4 * i ≤ 12 ∧ Hid (CurAt w' cb a len cap) ∧ Hid (ButFor cb w w')) (fun _ t _ => (intOf t).toNat)
  case atStart =>
    obtain ⟨i, rfl⟩ : ∃ i : Nat, x = i := ⟨x.toNat, by omega⟩
    exact ⟨⟨#[]⟩, i, rfl, rfl, by omega, by show 0 + 4 * i ≤ 12; omega, HC1, HB1⟩
  case round =>
    obtain ⟨s, i, rfl, rfl, hi, hsz, hc, hb⟩ := hrel
    by_cases hlt : 0 < i
    · have hlt' : (0 : Int) < i := by omega
      go_wp2_with fail
      refine (text_list _ _ _ _ _ hc.out).mono ?_
      rintro e w2 ⟨u, hu, rfl, hc2, hb2⟩
      have hus := textL_size u hu
      have HC2 : Hid _ := hc2
      have HB2 : Hid _ := hb.out.trans hb2
      clear hu hc2 hb2
      go_wp2
      go_roundw
      case rel => exact ⟨s ++ u, i - 1, rfl, by go_num, by omega, by rw [ByteArray.size_append]; omega, HC2, HB2⟩
      case measure => simp [intOf]; omega
    · have hlt' : ¬ (0 : Int) < i := by omega
      go_wp2_with fail
      refine (once_any _ _ _ _ _ _ (by omega) hc).mono ?_
      rintro e w2 ⟨q, rfl, hc2, hb2⟩
      have HC2 : Hid _ := hc2
      have HB2 : Hid _ := hb.out.trans hb2
      clear hc2 hb2 hc hb
      cases q
      · go_wp2
        go_ret
        exact text_end (by omega) HC2.out HB2.out
      · go_wp2_with fail
        go_loopw [3] (fun v w' => ∃ s : ByteArray, v = .string s ∧ s.size ≤ 601 ∧ Hid (CurAt w' cb a len cap) ∧ Hid (ButFor cb w w')) (fun v _ => 700 - szOf v)
        case atStart => exact ⟨s, rfl, by omega, HC2, HB2⟩
        case round =>
          obtain ⟨s2, rfl, hs2, hc3, hb3⟩ := hrel
          go_wp2_with fail
          refine (long_list _ _ _ _ _ hc3.out).mono ?_
          rintro e w3 ⟨z, hz, rfl, hc4, hb4⟩
          have hz6 : z ≤ 601 := by simp at hz; omega
          have HC4 : Hid _ := hc4
          have HB4 : Hid _ := hb3.out.trans hb4
          clear hz hc4 hb4 hc3 hb3
          by_cases hlz : (s2.size : Int) < z
          · go_wp2
            go_roundw
            case rel => exact ⟨s2 ++ ⟨#[120]⟩, rfl, by rw [ByteArray.size_append]; show s2.size + 1 ≤ 601; omega, HC4, HB4⟩
            case measure => show 700 - (s2 ++ (⟨#[120]⟩ : ByteArray)).size < 700 - s2.size; rw [ByteArray.size_append]; show 700 - (s2.size + 1) < 700 - s2.size; omega
          · go_wp2
            go_ret
            exact text_end (by omega) HC4.out HB4.out
end Go.Proofs.YtekbpekfomblbaaGreatDoor.draws
namespace Go.Proofs.YtekbpekfomblbaaGreatDoor.pairs
open Go.ChangeShapes Go.WideShapes Go.ChangeAt Go.RowKit
set_option linter.unusedVariables false
theorem new_Ent (w : World) (B : Nat) (hB : B ≤ w.heap.size) : OwnP 63 (w.alloc (.cells #[] 63)) B (.slice (some ⟨w.heap.size, 0, none⟩) 0 0) [] := World.ownsRow_made w #[] 0 hB (by decide) (by decide)
/-- append of pairs that lie in a new block of their own. -/
theorem infoO_Ent : (Tryz.prog.info? 63).map (fun i => (i.zero, i.size, i.bytes)) = some (some (.agg #[.string ⟨#[]⟩, .string ⟨#[]⟩]), 2, 32) := by kernel_rfl
theorem add_Ent {ops : Array Oper} {rest : List Oper} {o : Oper} {a : Act} {w : World} {Q : Exit → Act → World → Prop} (B : Nat) (v : Value) (L M : List Pair) (C : Array Value) (m : Nat)
    (hown : OwnP 63 w B v L) (hz : L.length + m ≤ 1000000) (hB : B ≤ w.heap.size) (hm : M.length = m) (hC : C = (cellsOf M).toArray) (hgd : o.guard = none) (s x : Operand)
    (ho : o.op = .call { callee := .builtin .append, args := #[s, x], argTypes := #[24, 24] }) (hs : a.eval s = v) (hx : a.eval x = .slice (some ⟨w.heap.size, 0, none⟩) m m)
    (h : ∀ v' w', OwnP 63 w' B v' (L ++ M) → w.heap.size ≤ w'.heap.size → (∀ k, k < B → w'.heap[k]? = w.heap[k]?) → w'.os = w.os → w'.tape = w.tape → w'.output = w.output → wpList Tryz.prog ops Q rest (a.put o.dst v') w') : wpList Tryz.prog ops Q (o :: rest) a (w.alloc (.cells C 63)) := by
  obtain ⟨i0, hi, hz0, hz1, hz2⟩ := info_parts infoO_Ent
  subst hm
  refine wpList_append_own _ hgd s x 24 ho B 63 i0 (.agg #[.string ⟨#[]⟩, .string ⟨#[]⟩]) 2 32 Tryz.underlying24 hi hz0 hz1 hz2 rfl (by decide) v L.length (cellsOf L) hs (World.ownsRow.alloc hown _) ⟨w.heap.size, 0, none⟩ M.length M.length (cellsOf M) hx (cellsOf_len M) ?_ (cells_one M) ?_ ?_ ?_ ?_
  · intro j u hj
    rw [show (⟨w.heap.size, 0, none⟩ : Addr).add j = ⟨w.heap.size, j, none⟩ by rw [Addr.add_lit, Nat.zero_add]]
    exact cell_new w C _ j u (by rw [hC]; simpa using hj)
  · unfold maxLen; omega
  · omega
  · simp; omega
  · intro v' w' ho' hg _
    have hsz := hg.size
    refine h v' w' (by unfold OwnP; rw [cellsOf_append, List.length_append]; exact ho') (by simp at hsz; omega) (fun k hk => ?_) hg.os hg.tape hg.output
    rw [hg.block k (by simp; omega) (fun e => by have := (World.ownsRow.lt hown k e.symm).1; omega)]
    exact Below.heap_alloc w _ k (by omega)
theorem append_none_Ent {w : World} (ty : TypeId) (i0 : TypeInfo) (hi : Tryz.prog.info? 63 = some i0) (hz0 : i0.zero = some (.agg #[.string ⟨#[]⟩, .string ⟨#[]⟩])) (hz1 : i0.size = 2) (hz2 : i0.bytes = 32) (B : Nat) (v : Value) (L : List Pair) (c : Nat) (hown : OwnP 63 w B v L) (hv : v ≠ .slice none 0 0) :
    ∃ w', (Builtin.append_ #[24, 24] ty #[v, .slice none ([] : List Pair).length c]).run Tryz.prog w = .ok v w' ∧ Below B w w' ∧ OwnP 63 w' B v L := by
  have hu := Tryz.underlying24
  rcases hown.2 with ⟨rfl, _⟩ | ⟨g, cap, cur, rfl, _, _, hnc, _⟩
  · exact absurd rfl hv
  · exact ⟨w, by simp [Builtin.append_, run_underlying hu, sizeOf, typeInfo, hi, Builtin.lenOf, Builtin.firstCells, hnc, storeCells], Below.refl _ _, hown⟩
/-- append of a slice of pairs that is there. -/
theorem app_Ent {ops : Array Oper} {rest : List Oper} {o : Oper} {a : Act} {w : World} {Q : Exit → Act → World → Prop} (B : Nat) (v : Value) (L M : List Pair) (ad : Option Addr) (c : Nat)
    (hown : OwnP 63 w B v L) (hp : PairsAt w ad M) (hz : L.length + M.length ≤ 4000000) (hB : B ≤ w.heap.size) (hv : v ≠ .slice none 0 0) (hgd : o.guard = none) (s x : Operand)
    (ho : o.op = .call { callee := .builtin .append, args := #[s, x], argTypes := #[24, 24] }) (hs : a.eval s = v) (hx : a.eval x = .slice ad M.length c)
    (h : ∀ v' w', OwnP 63 w' B v' (L ++ M) → Below B w w' → v' ≠ .slice none 0 0 → wpList Tryz.prog ops Q rest (a.put o.dst v') w') : wpList Tryz.prog ops Q (o :: rest) a w := by
  obtain ⟨i0, hi, hz0, hz1, hz2⟩ := info_parts infoO_Ent
  cases ad with
  | none =>
    have hM : M = [] := by
      cases M with
      | nil => rfl
      | cons p r =>
        obtain ⟨b, off, ha, _⟩ := hp.row (by simp)
        cases ha
    subst hM
    obtain ⟨w', hr, hg, ho'⟩ := append_none_Ent (w := w) o.type i0 hi hz0 hz1 hz2 B v L c hown hv
    exact wpList_run hgd s x 24 ho v _ v hs hx hr (h v w' (by rw [List.append_nil]; exact ho') hg hv)
  | some ad =>
    refine wpList_append_own _ hgd s x 24 ho B 63 i0 (.agg #[.string ⟨#[]⟩, .string ⟨#[]⟩]) 2 32 Tryz.underlying24 hi hz0 hz1 hz2 rfl (by decide) v L.length (cellsOf L) hs hown ad M.length c (cellsOf M) hx (cellsOf_len M) ?_ (cells_one M) ?_ ?_ hB ?_
    · intro j u hj
      have hjl : j < M.length * 2 := by
        have := (List.getElem?_eq_some_iff.1 hj).1
        rwa [cellsOf_len] at this
      obtain ⟨b, off, ha, _, hc⟩ := hp.row (by omega)
      cases ha
      obtain ⟨d1, d2⟩ := hc (j / 2) (by omega)
      obtain ⟨e1, e2⟩ := cellsOf_at M (j / 2) (by omega)
      rw [Addr.add_lit]
      rcases Nat.mod_two_eq_zero_or_one j with hm | hm
      · rw [show j / 2 * 2 = j by omega] at d1 e1
        rw [d1, ← e1, hj]
      · rw [show off + j / 2 * 2 + 1 = off + j by omega] at d2
        rw [show j / 2 * 2 + 1 = j by omega] at e2
        rw [d2, ← e2, hj]
    · unfold maxLen; omega
    · omega
    · intro v' w' ho' hg hn
      refine h v' w' (by unfold OwnP; rw [cellsOf_append, List.length_append]; exact ho') ((Below.refl _ _).grown hg hB (fun k hk => (World.ownsRow.lt hown k hk).1)) (fun e => hv (hn.1 e).1)
end Go.Proofs.YtekbpekfomblbaaGreatDoor.pairs
namespace Go.Proofs.YtekbpekfomblbaaGreatDoor.draws
open Go.ChangeShapes Go.WideShapes Go.ChangeAt Go.RowKit
open pairs (Pair at0 PairsAt)
set_option linter.unusedVariables false
theorem grown_but {cb : Nat} {w w' : World} (h : ButFor cb w w') : w.grownBy w' (some cb) := ⟨h.os, h.tape, h.output, h.size, fun k hk hne => h.block k hk (fun e => hne (by rw [e]))⟩
theorem own_but {t : TypeId} {w w' : World} {B cb : Nat} {v : Value} {L : List Pair} (h : pairs.OwnP t w B v L) (hcb : cb < B) (hb : ButFor cb w w') : pairs.OwnP t w' B v L :=
  World.ownsRow.kept h (grown_but hb) (by
    cases e : v.ownBlock with
    | none => exact .inl rfl
    | some g =>
      right
      intro e2
      have := (World.ownsRow.lt h g e).1
      cases e2
      omega)
theorem CurAt.keeps {w0 w w' : World} {cb len cap : Nat} {a : Option Addr} (h0 : CurAt w0 cb a len cap) (hc : CurAt w cb a len cap) (hs : w.heap.size ≤ w'.heap.size) (hk : ∀ k, k < w0.heap.size → w'.heap[k]? = w.heap[k]?) : CurAt w' cb a len cap := by
  have e : ∀ o, w'.cell? ⟨cb, o, none⟩ = w.cell? ⟨cb, o, none⟩ := fun o => World.cell?_of_block (w := w) (hk cb h0.here)
  have f : ∀ o, w'.frozen? ⟨cb, o, none⟩ = w.frozen? ⟨cb, o, none⟩ := fun o => World.frozen?_of_block (w := w) (hk cb h0.here)
  refine ⟨Nat.lt_of_lt_of_le hc.here hs, by rw [e]; exact hc.c0, ?_, ?_, by rw [f]; exact hc.f1, by rw [f]; exact hc.f2, hc.row.stays hs (fun hl b off ha _ => hk b ?_), hc.apart⟩
  · obtain ⟨i, hi, c⟩ := hc.c1; exact ⟨i, hi, by rw [e]; exact c⟩
  · obtain ⟨h, c⟩ := hc.c2; exact ⟨h, by rw [e]; exact c⟩
  · obtain ⟨b', off', ha', hb', _⟩ := h0.row.row hl
    rw [ha] at ha'
    cases ha'
    exact hb'
theorem ButFor.keeps {cb : Nat} {w0 w w' : World} (h : ButFor cb w0 w) (hs : w.heap.size ≤ w'.heap.size) (hk : ∀ k, k < w0.heap.size → w'.heap[k]? = w.heap[k]?) (h1 : w'.os = w.os) (h2 : w'.tape = w.tape) (h3 : w'.output = w.output) : ButFor cb w0 w' :=
  ⟨h1.trans h.os, h2.trans h.tape, h3.trans h.output, Nat.le_trans h.size hs, fun k hlt hne => (hk k hlt).trans (h.block k hlt hne)⟩
def Fine (L : List Pair) : Prop := ∀ i, i < L.length → (at0 L i).1.size ≤ 700 ∧ (at0 L i).2.size ≤ 700
theorem Fine.add {L M : List Pair} (h : Fine L) (hM : Fine M) : Fine (L ++ M) := fun i hi => by
  unfold at0
  rw [List.length_append] at hi
  by_cases hl : i < L.length
  · have e := h i hl
    unfold at0 at e
    rw [List.getD_eq_getElem?_getD, List.getElem?_append_left hl, ← List.getD_eq_getElem?_getD]
    exact e
  · have e := hM (i - L.length) (by omega)
    unfold at0 at e
    rw [List.getD_eq_getElem?_getD, List.getElem?_append_right (by omega), ← List.getD_eq_getElem?_getD]
    exact e
theorem fine_one {n v : ByteArray} (hn : n.size ≤ 700) (hv : v.size ≤ 700) : Fine [(n, v)] := fun i hi => by
  obtain rfl : i = 0 := by simpa using hi
  exact ⟨hn, hv⟩
/-- All that a walk through the draw keeps. -/
structure Drawn (ty : TypeId) (w wr : World) (cb len cap : Nat) (a : Option Addr) (v : Value) (L : List Pair) : Prop where
  own : pairs.OwnP ty wr w.heap.size v L
  fine : Fine L
  cur : CurAt wr cb a len cap
  but : ButFor cb w wr
theorem Drawn.but_for {ty : TypeId} {w wr w2 : World} {cb len cap : Nat} {a : Option Addr} {v : Value} {L : List Pair} (h : Drawn ty w wr cb len cap a v L) (h0 : cb < w.heap.size) (hc : CurAt w2 cb a len cap) (hb : ButFor cb wr w2) : Drawn ty w w2 cb len cap a v L :=
  ⟨own_but h.own h0 hb, h.fine, hc, h.but.trans hb⟩
theorem Drawn.added {ty : TypeId} {w wr w2 : World} {cb len cap : Nat} {a : Option Addr} {v v' : Value} {L M : List Pair} (h : Drawn ty w wr cb len cap a v L) (h0 : CurAt w cb a len cap) (hM : Fine M) (ho : pairs.OwnP ty w2 w.heap.size v' (L ++ M)) (hs : wr.heap.size ≤ w2.heap.size) (hk : ∀ k, k < w.heap.size → w2.heap[k]? = wr.heap[k]?) (h1 : w2.os = wr.os) (h2 : w2.tape = wr.tape) (h3 : w2.output = wr.output) : Drawn ty w w2 cb len cap a v' (L ++ M) :=
  ⟨ho, h.fine.add hM, h0.keeps h.cur hs hk, h.but.keeps hs hk h1 h2 h3⟩
theorem Drawn.ends {ty : TypeId} {w wr : World} {cb len cap : Nat} {a : Option Addr} {v : Value} {L : List Pair} (h : Drawn ty w wr cb len cap a v L) (hl : L.length ≤ 7) : ∃ (a' : Option Addr) (L' : List Pair) (cap' : Nat), Ending.returned v = .returned (.slice a' L'.length cap') ∧ PairsAt wr a' L' ∧ Fine L' ∧ L'.length ≤ 7 ∧ CurAt wr cb a len cap ∧ ButFor cb w wr := by
  obtain ⟨a', cap', hv, hp⟩ := pairs.OwnP.pairs h.own (by unfold maxLen; omega) (fun i hi => by have := h.fine i hi; unfold maxLen; omega)
  exact ⟨a', L, cap', by rw [hv], hp, h.fine, hl, h.cur, h.but⟩
end Go.Proofs.YtekbpekfomblbaaGreatDoor.draws
namespace Go.Proofs.YtekbpekfomblbaaGreatDoor.draws
open Go.ChangeShapes Go.WideShapes Go.ChangeAt Go.RowKit
open pairs (Pair at0 PairsAt)
set_option linter.unusedVariables false

theorem under3 {w w1 w2 : World} {cb : Nat} (h : Below w.heap.size w w1) (hcb : cb = w.heap.size) (hc : cb < w1.heap.size) (hb : ButFor cb w1 w2) : Below w.heap.size w w2 :=
  h.trans (hb.below (by omega) (by omega))
/-! ### Entries: a row of pairs of the call's own -/
def ent1L : List ByteArray := [⟨#[101]⟩, ⟨#[102]⟩, ⟨#[103]⟩]
theorem ent1L_size : ∀ s ∈ ent1L, s.size ≤ 1 := by
  intro s hs
  simp only [ent1L, List.mem_cons, List.mem_nil_iff, or_false] at hs
  rcases hs with rfl | rfl | rfl <;> decide
theorem ent1_list (w : World) (cb len cap : Nat) (a : Option Addr) (hc : CurAt w cb a len cap) :
    Calls Tryz.prog 13 #[.pointer (some ⟨cb, 0, none⟩), .slice (some ⟨w.heap.size, 0, none⟩) 3 3] (w.alloc (.cells #[.string ⟨#[101]⟩, .string ⟨#[102]⟩, .string ⟨#[103]⟩] 9)) fun e w' => ∃ s, s ∈ ent1L ∧ e = .returned (.string s) ∧ CurAt w' cb a len cap ∧ ButFor cb w w' :=
  str_new w cb len cap 3 3 a ent1L _ 9 rfl rfl (by decide) (by decide) hc
def ent2L : List ByteArray := [⟨#[]⟩, ⟨#[49]⟩]
theorem ent2L_size : ∀ s ∈ ent2L, s.size ≤ 1 := by
  intro s hs
  simp only [ent2L, List.mem_cons, List.mem_nil_iff, or_false] at hs
  rcases hs with rfl | rfl <;> decide
theorem ent2_list (w : World) (cb len cap : Nat) (a : Option Addr) (hc : CurAt w cb a len cap) :
    Calls Tryz.prog 13 #[.pointer (some ⟨cb, 0, none⟩), .slice (some ⟨w.heap.size, 0, none⟩) 2 2] (w.alloc (.cells #[.string ⟨#[]⟩, .string ⟨#[49]⟩] 9)) fun e w' => ∃ s, s ∈ ent2L ∧ e = .returned (.string s) ∧ CurAt w' cb a len cap ∧ ButFor cb w w' :=
  str_new w cb len cap 2 2 a ent2L _ 9 rfl rfl (by decide) (by decide) hc
def ent3L : List ByteArray := [⟨#[]⟩, ⟨#[120]⟩, ⟨#[97, 38, 98]⟩, ⟨#[60]⟩, ⟨#[195, 169, 32]⟩]
theorem ent3L_size : ∀ s ∈ ent3L, s.size ≤ 3 := by
  intro s hs
  simp only [ent3L, List.mem_cons, List.mem_nil_iff, or_false] at hs
  rcases hs with rfl | rfl | rfl | rfl | rfl <;> decide
theorem ent3_list (w : World) (cb len cap : Nat) (a : Option Addr) (hc : CurAt w cb a len cap) :
    Calls Tryz.prog 13 #[.pointer (some ⟨cb, 0, none⟩), .slice (some ⟨w.heap.size, 0, none⟩) 5 5] (w.alloc (.cells #[.string ⟨#[]⟩, .string ⟨#[120]⟩, .string ⟨#[97, 38, 98]⟩, .string ⟨#[60]⟩, .string ⟨#[195, 169, 32]⟩] 9)) fun e w' => ∃ s, s ∈ ent3L ∧ e = .returned (.string s) ∧ CurAt w' cb a len cap ∧ ButFor cb w w' :=
  str_new w cb len cap 5 5 a ent3L _ 9 rfl rfl (by decide) (by decide) hc
def ent4L : List ByteArray := [⟨#[108, 116]⟩, ⟨#[]⟩, ⟨#[101, 58, 102]⟩, ⟨#[111, 107]⟩]
theorem ent4L_size : ∀ s ∈ ent4L, s.size ≤ 3 := by
  intro s hs
  simp only [ent4L, List.mem_cons, List.mem_nil_iff, or_false] at hs
  rcases hs with rfl | rfl | rfl | rfl <;> decide
theorem ent4_list (w : World) (cb len cap : Nat) (a : Option Addr) (hc : CurAt w cb a len cap) :
    Calls Tryz.prog 13 #[.pointer (some ⟨cb, 0, none⟩), .slice (some ⟨w.heap.size, 0, none⟩) 4 4] (w.alloc (.cells #[.string ⟨#[108, 116]⟩, .string ⟨#[]⟩, .string ⟨#[101, 58, 102]⟩, .string ⟨#[111, 107]⟩] 9)) fun e w' => ∃ s, s ∈ ent4L ∧ e = .returned (.string s) ∧ CurAt w' cb a len cap ∧ ButFor cb w w' :=
  str_new w cb len cap 4 4 a ent4L _ 9 rfl rfl (by decide) (by decide) hc
theorem fine_four : Fine [(⟨#[118]⟩, ⟨#[]⟩), (⟨#[119]⟩, ⟨#[]⟩), (⟨#[120]⟩, ⟨#[]⟩), (⟨#[121]⟩, ⟨#[]⟩)] := fun i hi => by
  rcases (show i = 0 ∨ i = 1 ∨ i = 2 ∨ i = 3 by simp at hi; omega) with rfl | rfl | rfl | rfl <;> decide
set_option maxRecDepth 100000 in
set_option maxHeartbeats 4000000 in
theorem l3ents (w : World) (cb len cap : Nat) (a : Option Addr) (HC : Hid (CurAt w cb a len cap)) : Calls Tryz.prog 18 #[.pointer (some ⟨cb, 0, none⟩)] w fun e w' => ∃ (a' : Option Addr) (L : List Pair) (cap' : Nat), e = .returned (.slice a' L.length cap') ∧ PairsAt w' a' L ∧ Fine L ∧ L.length ≤ 7 ∧ CurAt w' cb a len cap ∧ ButFor cb w w' := by
  have H0 : Hid (cb < w.heap.size) := HC.out.here
  go_enter Tryz.func18, Tryz.ntmps18
  go_wp2_with fail
  refine (below_any _ _ _ _ _ _ (by omega) (HC.out.alloc _)).mono ?_
  rintro e w1 ⟨x, rfl, hx0, hx1, hc1, hb1⟩
  have HD1 : Hid (Drawn 63 w w1 cb len cap a (.slice (some ⟨w.heap.size, 0, none⟩) 0 0) []) := ⟨own_but (pairs.new_Ent w _ (Nat.le_refl _)) H0.out hb1, (fun i hi => by cases hi), hc1, (ButFor.refl cb w).alloc _ |>.trans hb1⟩
  have hx3 : x ≤ 2 := by omega
  clear hc1 hb1 hx1
  go_wp2_with fail
  go_loopw [3, 4] (fun v t wr => ∃ (L : List Pair) (i : Nat), t = .int .i64 i ∧ i ≤ 2 ∧ L.length + i ≤ 2 ∧ Hid (Drawn 63 w wr cb len cap a v L)) (fun _ t _ => (intOf t).toNat)
  case atStart =>
    obtain ⟨i, rfl⟩ : ∃ i : Nat, x = i := ⟨x.toNat, by omega⟩
    exact ⟨[], i, rfl, by omega, by show 0 + i ≤ 2; omega, HD1⟩
  case round =>
    obtain ⟨L, i, rfl, hi, hli, hd⟩ := hrel
    by_cases hlt : 0 < i
    · have hlt' : (0 : Int) < i := by omega
      go_wp2_with fail
      refine (ent1_list _ _ _ _ _ hd.out.cur).mono ?_
      rintro e w2 ⟨n1, hn1, rfl, hc2, hb2⟩
      have hz1 := ent1L_size n1 hn1
      have HD2 : Hid _ := hd.out.but_for H0.out hc2 hb2
      clear hn1 hc2 hb2
      go_wp2_with fail
      refine (ent2_list _ _ _ _ _ HD2.out.cur).mono ?_
      rintro e w3 ⟨n2, hn2, rfl, hc3, hb3⟩
      have hz2 := ent2L_size n2 hn2
      have HD3 : Hid _ := HD2.out.but_for H0.out hc3 hb3
      clear hn2 hc3 hb3
      go_wp2_with fail
      refine (ent3_list _ _ _ _ _ HD3.out.cur).mono ?_
      rintro e w4 ⟨v1, hv1, rfl, hc4, hb4⟩
      have hz3 := ent3L_size v1 hv1
      have HD4 : Hid _ := HD3.out.but_for H0.out hc4 hb4
      clear hv1 hc4 hb4
      have HFN : Hid (Fine [(n1 ++ n2, v1)]) := fine_one (by rw [ByteArray.size_append]; omega) (by omega)
      go_wp2_with (at_builtin; refine pairs.add_Ent w.heap.size _ L [(n1 ++ n2, v1)] _ 1 HD4.out.own (by omega) HD4.out.but.size rfl (by rfl) (by rfl) _ _ (by rfl) (by rfl) (by rfl) ?_; rintro v' w5 ho5 hs5 hk5 h51 h52 h53)
      go_roundw
      case rel => exact ⟨L ++ [(n1 ++ n2, v1)], i - 1, by go_num, by omega, (by rw [List.length_append]; show L.length + 1 + (i - 1) ≤ 2; omega), HD4.out.added HC.out HFN.out ho5 hs5 hk5 h51 h52 h53⟩
      case measure => simp [intOf]; omega
    · have hlt' : ¬ (0 : Int) < i := by omega
      have hl2 : L.length ≤ 2 := by omega
      go_wp2_with fail
      refine (once_any _ _ _ _ _ _ (by omega) hd.out.cur).mono ?_
      rintro e w2 ⟨q, rfl, hc2, hb2⟩
      have HD2 : Hid _ := hd.out.but_for H0.out hc2 hb2
      clear hc2 hb2 hd
      cases q
      · go_wp2_with fail
        refine (once_any _ _ _ _ _ _ (by omega) HD2.out.cur).mono ?_
        rintro e wA ⟨q2, rfl, hcA, hbA⟩
        have HDA : Hid _ := HD2.out.but_for H0.out hcA hbA
        clear hcA hbA
        cases q2
        · go_wp2
          go_ret
          exact HDA.out.ends (by omega)
        · go_wp2_with (at_builtin; refine pairs.add_Ent w.heap.size _ _ [(⟨#[118]⟩, ⟨#[]⟩), (⟨#[119]⟩, ⟨#[]⟩), (⟨#[120]⟩, ⟨#[]⟩), (⟨#[121]⟩, ⟨#[]⟩)] _ 4 HDA.out.own (by omega) HDA.out.but.size rfl (by rfl) (by rfl) _ _ (by rfl) (by rfl) (by rfl) ?_; rintro v5 w8 ho8 hs8 hk8 h81 h82 h83)
          go_ret
          exact (HDA.out.added HC.out fine_four ho8 hs8 hk8 h81 h82 h83).ends (by rw [List.length_append]; show L.length + 4 ≤ 7; omega)
      · go_wp2_with fail
        refine (ent4_list _ _ _ _ _ HD2.out.cur).mono ?_
        rintro e w3 ⟨n1, hn1, rfl, hc3, hb3⟩
        have hz1 := ent4L_size n1 hn1
        have HD3 : Hid _ := HD2.out.but_for H0.out hc3 hb3
        clear hn1 hc3 hb3
        go_wp2_with fail
        refine (text_any _ _ _ _ _ HD3.out.cur).mono ?_
        rintro e w4 ⟨v1, rfl, hz3, hc4, hb4⟩
        have HD4 : Hid _ := HD3.out.but_for H0.out hc4 hb4
        clear hc4 hb4
        have HFN : Hid (Fine [(n1, v1)]) := fine_one (by omega) (by omega)
        go_wp2_with (first
          | (at_builtin; refine pairs.add_Ent w.heap.size _ L [(n1, v1)] _ 1 HD4.out.own (by omega) HD4.out.but.size rfl (by rfl) (by rfl) _ _ (by rfl) (by rfl) (by rfl) ?_; rintro v' w5 ho5 hs5 hk5 h51 h52 h53)
          | fail)
        have HD5 : Hid _ := HD4.out.added HC.out HFN.out ho5 hs5 hk5 h51 h52 h53
        have hl5 : (L ++ [(n1, v1)]).length ≤ 3 := by rw [List.length_append]; show L.length + 1 ≤ 3; omega
        clear ho5 hs5 hk5 h51 h52 h53
        go_wp2_with fail
        refine (once_any _ _ _ _ _ _ (by omega) HD5.out.cur).mono ?_
        rintro e wA ⟨q2, rfl, hcA, hbA⟩
        have HDA : Hid _ := HD5.out.but_for H0.out hcA hbA
        clear hcA hbA
        cases q2
        · go_wp2
          go_ret
          exact HDA.out.ends (by omega)
        · go_wp2_with (at_builtin; refine pairs.add_Ent w.heap.size _ _ [(⟨#[118]⟩, ⟨#[]⟩), (⟨#[119]⟩, ⟨#[]⟩), (⟨#[120]⟩, ⟨#[]⟩), (⟨#[121]⟩, ⟨#[]⟩)] _ 4 HDA.out.own (by omega) HDA.out.but.size rfl (by rfl) (by rfl) _ _ (by rfl) (by rfl) (by rfl) ?_; rintro v5 w8 ho8 hs8 hk8 h81 h82 h83)
          go_ret
          exact (HDA.out.added HC.out fine_four ho8 hs8 hk8 h81 h82 h83).ends (by rw [List.length_append]; show (L ++ [(n1, v1)]).length + 4 ≤ 7; omega)
end Go.Proofs.YtekbpekfomblbaaGreatDoor.draws
namespace Go.Proofs.YtekbpekfomblbaaGreatDoor.bytes8
open Go.ChangeShapes Go.WideShapes Go.ChangeAt Go.RowKit
set_option linter.unusedVariables false

/-- The block g holds c bytes, of which the first n count; all may be written. -/
structure Row8 (w : World) (g n c : Nat) : Prop where
  here : g < w.heap.size
  fits : n ≤ c
  short : c ≤ maxLen
  cells : ∀ j, j < n → ∃ z : Int, w.cell? ⟨g, j, none⟩ = some (.int .u8 z)
  spare : ∀ j, j < c → (w.cell? ⟨g, j, none⟩).isSome = true ∧ w.frozen? ⟨g, j, none⟩ = false
theorem Row8.stays {w w' : World} {g n c : Nat} (h : Row8 w g n c) (hs : w.heap.size ≤ w'.heap.size) (hb : w'.heap[g]? = w.heap[g]?) : Row8 w' g n c := by
  have e : ∀ o, w'.cell? ⟨g, o, none⟩ = w.cell? ⟨g, o, none⟩ := fun o => World.cell?_of_block (w := w) hb
  have f : ∀ o, w'.frozen? ⟨g, o, none⟩ = w.frozen? ⟨g, o, none⟩ := fun o => World.frozen?_of_block (w := w) hb
  exact ⟨Nat.lt_of_lt_of_le h.here hs, h.fits, h.short, fun j hj => by rw [e]; exact h.cells j hj, fun j hj => by rw [e, f]; exact h.spare j hj⟩

def numAt (w : World) (g j : Nat) : Int := match w.cell? ⟨g, j, none⟩ with | some (.int _ z) => z | _ => 0
theorem numAt_eq {w : World} {g j : Nat} {z : Int} (h : w.cell? ⟨g, j, none⟩ = some (.int .u8 z)) : numAt w g j = z := by unfold numAt; rw [h]
def numsAt (w : World) (g off n : Nat) : List Int := (List.range n).map fun j => numAt w g (off + j)
theorem numsAt_length (w : World) (g off n : Nat) : (numsAt w g off n).length = n := by simp [numsAt]
def strAt (w : World) (g n : Nat) : ByteArray := strOfNums (numsAt w g 0 n)
theorem strAt_size (w : World) (g n : Nat) : (strAt w g n).size = n := by unfold strAt; rw [strOfNums_size, numsAt_length]
/-- string(b), b's cells being bytes. -/
theorem conv_run (w : World) (g n c : Nat) (h : ∀ j, j < n → ∃ z : Int, w.cell? ⟨g, j, none⟩ = some (.int .u8 z)) :
    (convert 22 9 (.slice (some ⟨g, 0, none⟩) n c)).run Tryz.prog w = .ok (.string (strAt w g n)) w :=
  run_convert_bytes_arg w 22 5 Tryz.underlying22 Tryz.underlying5 g 0 n c (numsAt w g 0 n) (numsAt_length _ _ _ _) (fun i hi => by
    obtain ⟨z, hz⟩ := h i hi
    rw [Nat.zero_add, hz]
    simp [numsAt, List.getD, hi, numAt_eq hz]) 9 Tryz.underlying9
theorem upon_of_run {P : Program} {o : Oper} {a : Act} {K : Act → World → Prop} {Q : Exit → Act → World → Prop} {r r' : Result Value} {f : Value → World → Result Next} (h : r = r') (hK : Oper.upon P o a K Q (r'.andThen f)) : Oper.upon P o a K Q (r.andThen f) := by rw [h]; exact hK

/-- What is appended out of a piece of such a block. -/
theorem src_piece (w : World) (g off n c : Nat) (h : ∀ j, j < n → ∃ z : Int, w.cell? ⟨g, off + j, none⟩ = some (.int .u8 z)) :
    Src Tryz.prog 1 22 (.slice (some ⟨g, off, none⟩) n c) n ((numsAt w g off n).map (Value.int .u8)) w := by
  refine Src.ofSlice w Tryz.underlying22 ⟨g, off, none⟩ n c _ (by simp [numsAt]) (fun j u hu => ?_) (fun u hu => ?_)
  · have hj : j < n := by
      have := (List.getElem?_eq_some_iff.1 hu).1
      simpa [numsAt] using this
    obtain ⟨z, hz⟩ := h j hj
    rw [Addr.add_lit, hz]
    simp [numsAt, hj, numAt_eq hz] at hu
    rw [hu]
  · obtain ⟨x, _, rfl⟩ := List.mem_map.1 hu
    rfl
theorem nums_u8 (l : List Int) : ∀ u ∈ l.map (Value.int .u8), ∃ z, u = Value.int .u8 z := by
  intro u hu
  obtain ⟨z, _, rfl⟩ := List.mem_map.1 hu
  exact ⟨z, rfl⟩
theorem bytes_u8 (s : ByteArray) : ∀ u ∈ byteCells s, ∃ z, u = Value.int .u8 z := by
  intro u hu
  obtain ⟨z, _, rfl⟩ := List.mem_map.1 hu
  exact ⟨_, rfl⟩
theorem info5 : (Tryz.prog.info? 5).map (fun i => (i.zero, i.size, i.bytes)) = some (some (.int .u8 0), 1, 1) := by kernel_rfl

theorem size_setCells (b : Nat) : ∀ (vs : List Value) (o : Nat) (w : World), (w.setCells b o vs).heap.size = w.heap.size
  | [], _, _ => rfl
  | v :: r, o, w => by rw [World.setCells, size_setCells b r]; simp [World.setCell]
theorem plain_setCells (b : Nat) : ∀ (vs : List Value) (o : Nat) (w : World), (w.setCells b o vs).os = w.os ∧ (w.setCells b o vs).tape = w.tape ∧ (w.setCells b o vs).output = w.output
  | [], _, _ => ⟨rfl, rfl, rfl⟩
  | v :: r, o, w => by rw [World.setCells]; exact plain_setCells b r (o + 1) _

/-- What an append leaves of the world: but for the row's own block nothing has turned. -/
structure Kept (g : Nat) (w w' : World) : Prop where
  os : w'.os = w.os
  tape : w'.tape = w.tape
  output : w'.output = w.output
  size : w.heap.size ≤ w'.heap.size
  block : ∀ k, k < w.heap.size → k ≠ g → w'.heap[k]? = w.heap[k]?

theorem cell_new (w : World) (C : Array Value) (t : TypeId) (i : Nat) (v : Value) (h : C[i]? = some v) : (w.alloc (.cells C t)).cell? ⟨w.heap.size, i, none⟩ = some v := by simp [h]
theorem frozen_new (w : World) (C : Array Value) (t : TypeId) (i : Nat) : (w.alloc (.cells C t)).frozen? ⟨w.heap.size, i, none⟩ = false := by simp
theorem append_run (w : World) (tx ty : TypeId) (g n c B : Nat) (hB : B ≤ g) (hBw : B ≤ w.heap.size) (hr : Row8 w g n c) (x : Value) (m : Nat) (news : List Value) (hs : Src Tryz.prog 1 tx x m news w) (h8 : ∀ u ∈ news, ∃ z, u = Value.int .u8 z) (hz : n + m ≤ 1000000) :
    ∃ g' c' w', (Builtin.append_ #[22, tx] ty #[.slice (some ⟨g, 0, none⟩) n c, x]).run Tryz.prog w = .ok (.slice (some ⟨g', 0, none⟩) (n + m) c') w' ∧ Row8 w' g' (n + m) c' ∧ B ≤ g' ∧ Kept g w w' := by
  obtain ⟨i0, hi0, hz0, hz1, hz2⟩ := info_parts info5
  have hnl : news.length = m := by have := hs.newsLen; omega
  rw [← hz1] at hs
  by_cases hroom : n + m ≤ c
  · have hrun := run_append_room_src (P := Tryz.prog) w 22 tx ty 5 i0 Tryz.underlying22 hi0 g 0 n c x m news hs hroom
      (fun j hj => by rw [hz1, Nat.mul_one, Nat.zero_add]; exact (hr.spare (n + j) (by omega)).1) (fun j hj => by rw [hz1, Nat.mul_one, Nat.zero_add]; exact (hr.spare (n + j) (by omega)).2)
    rw [hz1, Nat.mul_one, Nat.zero_add] at hrun
    have hin := World.cell?_setCells_in g news n w (fun j hj => (hr.spare (n + j) (by omega)).1)
    obtain ⟨p1, p2, p3⟩ := plain_setCells g news n w
    refine ⟨g, c, _, hrun, ⟨by rw [size_setCells]; exact hr.here, hroom, hr.short, fun j hj => ?_, fun j hj => ?_⟩, hB, ⟨p1, p2, p3, by rw [size_setCells]; exact Nat.le_refl _, fun k hk hne => World.heap_setCells_other w g n news hk hne⟩⟩
    · by_cases hjn : j < n
      · rw [World.cell?_setCells_out g news n w _ (fun _ _ => .inl hjn)]
        exact hr.cells j hjn
      · obtain ⟨i, rfl⟩ : ∃ i, j = n + i := ⟨j - n, by omega⟩
        rw [hin i (by omega)]
        obtain ⟨z, hz⟩ := h8 _ (List.getElem_mem (by omega : i < news.length))
        exact ⟨z, by rw [hz]⟩
    · refine ⟨?_, by rw [World.frozen?_setCells]; exact (hr.spare j hj).2⟩
      by_cases hjn : n ≤ j ∧ j < n + m
      · obtain ⟨i, rfl⟩ : ∃ i, j = n + i := ⟨j - n, by omega⟩
        rw [hin i (by omega)]; rfl
      · rw [World.cell?_setCells_out g news n w _ (fun _ _ => by simp only; omega)]
        exact (hr.spare j hj).1
  · obtain ⟨olds, ho, hol⟩ : ∃ olds : List Value, (Builtin.firstCells i0.size n (.slice (some ⟨g, 0, none⟩) n c)).run Tryz.prog w.drew = .ok olds.toArray w.drew ∧ olds = (numsAt w g 0 n).map (Value.int .u8) := by
      have hsrc := (src_piece w g 0 n c (fun j hj => by rw [Nat.zero_add]; exact hr.cells j hj)).cellsD
      rw [hz1]
      exact ⟨_, hsrc, rfl⟩
    have hmm : n + m ≤ maxLen := by unfold maxLen; omega
    have hrun := run_append_grow_src (P := Tryz.prog) w 22 tx ty 5 i0 (.int .u8 0) Tryz.underlying22 hi0 hz0 (some ⟨g, 0, none⟩) n c olds ho x m news hs (by omega) (by omega) (growslice_fits (by omega) (by rw [hz2]; omega))
    have hge := grownCap_ge w (n + m) c 5
    have hle := grownCap_le_maxLen w (n + m) c 5 hmm
    refine ⟨_, _, _, hrun, ⟨by simp, hge, hle, fun j hj => ?_, fun j hj => ?_⟩, hBw, ⟨rfl, rfl, rfl, by simp, fun k hk _ => Below.heap_alloc w.drew _ k hk⟩⟩
    · have hlo : olds.length = n := by rw [hol]; simp [numsAt]
      have hj2 : j < (olds ++ news).length := by simp; omega
      have hoU : ∀ u ∈ olds, ∃ z, u = Value.int .u8 z := by rw [hol]; exact nums_u8 _
      have hu : ∃ z, (olds ++ news)[j] = Value.int .u8 z := by
        have hmem := List.getElem_mem hj2
        rcases List.mem_append.1 hmem with hm | hm
        · exact hoU _ hm
        · exact h8 _ hm
      obtain ⟨z, hz⟩ := hu
      refine ⟨z, cell_new w.drew _ _ _ _ ?_⟩
      rw [Array.getElem?_append_left (by simpa using hj2), List.getElem?_toArray, List.getElem?_eq_getElem hj2, hz]
    · have hlo : olds.length = n := by rw [hol]; simp [numsAt]
      refine ⟨?_, frozen_new w.drew _ _ _⟩
      have hsz : j < ((olds ++ news).toArray ++ Builtin.zeroCells (Value.cells (.int .u8 0)) (grownCap w (n + m) c 5 - (n + m))).size := by
        rw [Array.size_append, size_zeroCells]
        show j < (olds ++ news).toArray.size + (grownCap w (n + m) c 5 - (n + m)) * 1
        simp
        omega
      have hcn := cell_new w.drew _ 5 j _ (Array.getElem?_eq_getElem hsz)
      exact Option.isSome_iff_exists.2 ⟨_, hcn⟩
/-- append, as a step of a region that draws its order. -/
theorem step_append8 {ops : Array Oper} {o : Oper} {a : Act} {w : World} {K : Act → World → Prop} {Q : Exit → Act → World → Prop} {E : Prop}
    (hg : o.guard = none) (s x : Operand) (tx : TypeId) (hop : o.op = Op.call { callee := Callee.builtin Builtin.append, args := #[s, x], argTypes := #[22, tx] })
    (g n c B : Nat) (vx : Value) (m : Nat) (news : List Value) (hs : a.eval s = .slice (some ⟨g, 0, none⟩) n c) (hx : a.eval x = vx) (hB : B ≤ g) (hBw : B ≤ w.heap.size) (hr : Row8 w g n c) (hsrc : Src Tryz.prog 1 tx vx m news w) (h8 : ∀ u ∈ news, ∃ z, u = Value.int .u8 z) (hz : n + m ≤ 1000000)
    (hK : ∀ g' c' w', Row8 w' g' (n + m) c' → B ≤ g' → Kept g w w' → K (a.put o.dst (.slice (some ⟨g', 0, none⟩) (n + m) c')) w') :
    if Region.wanted o (yielded ops a.tmps) = true then Oper.wp Tryz.prog o a w K Q else E := by
  have hw : Region.wanted o (yielded ops a.tmps) = true := by simp [Region.wanted, hg]
  rw [if_pos hw]
  obtain ⟨g', c', w', hrun, r1, r2, r3⟩ := append_run w tx o.type g n c B hB hBw hr vx m news hsrc h8 hz
  unfold Oper.wp
  simp [execOp, hop, resolve, invoke, builtin, hs, hx, hrun, Result.andThen]
  exact hK g' c' w' r1 r2 r3
end Go.Proofs.YtekbpekfomblbaaGreatDoor.bytes8
namespace Go.Proofs.YtekbpekfomblbaaGreatDoor.draws
open Go.ChangeShapes Go.WideShapes Go.ChangeAt Go.RowKit
open bytes8
set_option linter.unusedVariables false
set_option linter.unusedSimpArgs false

theorem CurAt.drew {w : World} {cb len cap : Nat} {a : Option Addr} (hc : CurAt w cb a len cap) : CurAt w.drew cb a len cap := hc.stays (Nat.le_refl _) ((Below.refl _ _).drew)
theorem ButFor.drew {cb : Nat} {a w : World} (h : ButFor cb a w) : ButFor cb a w.drew := h.trans ⟨rfl, rfl, rfl, Nat.le_refl _, fun _ _ _ => rfl⟩
theorem row_stays {w w' : World} {cb K n c : Nat} (h : Row8 w K n c) (hb : ButFor cb w w') (hne : K ≠ cb) : Row8 w' K n c := h.stays hb.size (hb.block K h.here hne)
theorem Kept.refl (g : Nat) (w : World) : Kept g w w := ⟨rfl, rfl, rfl, Nat.le_refl _, fun _ _ _ => rfl⟩
theorem Kept.trans {g : Nat} {a b c : World} (h : Kept g a b) (k : Kept g b c) : Kept g a c :=
  ⟨k.os.trans h.os, k.tape.trans h.tape, k.output.trans h.output, Nat.le_trans h.size k.size, fun i hi hn => (k.block i (Nat.lt_of_lt_of_le hi h.size) hn).trans (h.block i hi hn)⟩
theorem Kept.setCell (w : World) (g o : Nat) (v : Value) : Kept g w (w.setCell ⟨g, o, none⟩ v) := ⟨rfl, rfl, rfl, by simp [World.setCell], fun k _ hn => Below.heap_setCell w ⟨g, o, none⟩ v k hn⟩
theorem Kept.alloc (w : World) (g : Nat) (o : Obj) : Kept g w (w.alloc o) := ⟨rfl, rfl, rfl, by show w.heap.size ≤ (w.heap.push _).size; simp, fun k hk _ => Below.heap_alloc w o k hk⟩
theorem Kept.drew (w : World) (g : Nat) : Kept g w w.drew := ⟨rfl, rfl, rfl, Nat.le_refl _, fun _ _ _ => rfl⟩
theorem Kept.but {cb g : Nat} {w0 w w' : World} (h : Kept g w w') (hB : w0.heap.size ≤ g) (hb : ButFor cb w0 w) : ButFor cb w0 w' :=
  ⟨h.os.trans hb.os, h.tape.trans hb.tape, h.output.trans hb.output, Nat.le_trans hb.size h.size, fun k hk hn => (h.block k (Nat.lt_of_lt_of_le hk hb.size) (by omega)).trans (hb.block k hk hn)⟩
theorem Kept.cur {cb g len cap : Nat} {a : Option Addr} {w w' : World} (h : Kept g w w') (hc : CurAt w cb a len cap) (hcb : cb < g) (hrow : 0 < len → ∀ b off, a = some ⟨b, off, none⟩ → b < g) : CurAt w' cb a len cap := by
  have e : ∀ o, w'.cell? ⟨cb, o, none⟩ = w.cell? ⟨cb, o, none⟩ := fun o => World.cell?_of_block (w := w) (h.block cb hc.here (by omega))
  have f : ∀ o, w'.frozen? ⟨cb, o, none⟩ = w.frozen? ⟨cb, o, none⟩ := fun o => World.frozen?_of_block (w := w) (h.block cb hc.here (by omega))
  refine ⟨Nat.lt_of_lt_of_le hc.here h.size, by rw [e]; exact hc.c0, ?_, ?_, by rw [f]; exact hc.f1, by rw [f]; exact hc.f2, hc.row.stays h.size fun h0 b off ha hlt => h.block b hlt (by have := hrow h0 b off ha; omega), hc.apart⟩
  · obtain ⟨i, hi, c⟩ := hc.c1; exact ⟨i, hi, by rw [e]; exact c⟩
  · obtain ⟨h, c⟩ := hc.c2; exact ⟨h, by rw [e]; exact c⟩
theorem cells_set {w : World} {K n c : Nat} (h : Row8 w K n c) (i : Nat) (hi : i < n) (q : Int) : ∀ j, j < n → ∃ z : Int, (w.setCell ⟨K, i, none⟩ (.int .u8 q)).cell? ⟨K, j, none⟩ = some (.int .u8 z) := by
  intro j hj
  by_cases e : i = j
  · subst e
    obtain ⟨z, hz⟩ := h.cells i hi
    exact ⟨q, World.cell?_setCell_same _ _ _ hz⟩
  · obtain ⟨z, hz⟩ := h.cells j hj
    exact ⟨z, by rw [setCell_other _ _ _ _ (off_ne e)]; exact hz⟩
theorem Row8.part {w : World} {g n c m : Nat} (h : Row8 w g n c) (hm : m ≤ n) : Row8 w g m c := ⟨h.here, Nat.le_trans hm h.fits, h.short, fun j hj => h.cells j (by omega), h.spare⟩
theorem Row8.drew {w : World} {g n c : Nat} (h : Row8 w g n c) : Row8 w.drew g n c := h.stays (Nat.le_refl _) rfl
theorem Row8.kept {w w' : World} {g k n c : Nat} (h : Row8 w g n c) (hk : Kept k w w') (hne : g ≠ k) : Row8 w' g n c := h.stays hk.size (hk.block g h.here hne)
theorem row_empty (w : World) : Row8 (w.alloc (.cells #[] 5)) w.heap.size 0 0 := ⟨by simp, Nat.le_refl _, Nat.zero_le _, fun j hj => by omega, fun j hj => by omega⟩
theorem row_bytes (w : World) (s : ByteArray) (hs : s.size ≤ maxLen) : Row8 (Lib.bytesWorld w 5 s) w.heap.size s.size (grownCap w s.size 0 5) := by
  have hge := grownCap_ge w s.size 0 5
  have hsz : (Lib.bytesCells w 5 s).size = grownCap w s.size 0 5 := by
    have hd : s.data.size = s.size := rfl
    simp [Lib.bytesCells]; omega
  refine ⟨by rw [Lib.bytesWorld_size]; omega, hge, grownCap_le_maxLen w s.size 0 5 hs, fun j hj => ⟨_, Lib.bytesWorld_cell w 5 s j hj⟩, fun j hj => ⟨?_, ?_⟩⟩
  · have hj' : j < (Lib.bytesCells w 5 s).size := by omega
    simp [World.cell?, Lib.bytesWorld_at_new, hj']
  · simp [World.frozen?, Lib.bytesWorld_at_new]; omega
theorem bytes_below (w : World) (e : TypeId) (s : ByteArray) : Below w.heap.size w (Lib.bytesWorld w e s) := by
  refine ⟨rfl, rfl, rfl, ?_, fun k hk => Lib.bytesWorld_at_old w e s k hk⟩
  rw [Lib.bytesWorld_size]; omega
theorem bend_end {w w' : World} {cb len cap : Nat} {a : Option Addr} {s : ByteArray} (hs : s.size ≤ 800) (hc : CurAt w' cb a len cap) (hb : ButFor cb w w') : ∃ s' : ByteArray, Ending.returned (.string s) = .returned (.string s') ∧ s'.size ≤ 800 ∧ CurAt w' cb a len cap ∧ ButFor cb w w' := ⟨s, rfl, hs, hc, hb⟩

def bendL : List ByteArray := [⟨#[60]⟩, ⟨#[62]⟩, ⟨#[38]⟩, ⟨#[34]⟩, ⟨#[39]⟩, ⟨#[47]⟩, ⟨#[32]⟩, ⟨#[61]⟩, ⟨#[10]⟩, ⟨#[93]⟩, ⟨#[120]⟩, ⟨#[255]⟩, ⟨#[45]⟩]
theorem bendL_size : ∀ s ∈ bendL, s.size ≤ 4 := by
  intro s hs
  simp only [bendL, List.mem_cons, List.mem_nil_iff, or_false] at hs
  rcases hs with rfl | rfl | rfl | rfl | rfl | rfl | rfl | rfl | rfl | rfl | rfl | rfl | rfl <;> decide
theorem bend_list (w : World) (cb len cap : Nat) (a : Option Addr) (hc : CurAt w cb a len cap) :
    Calls Tryz.prog 13 #[.pointer (some ⟨cb, 0, none⟩), .slice (some ⟨w.heap.size, 0, none⟩) 13 13] (w.alloc (.cells #[.string ⟨#[60]⟩, .string ⟨#[62]⟩, .string ⟨#[38]⟩, .string ⟨#[34]⟩, .string ⟨#[39]⟩, .string ⟨#[47]⟩, .string ⟨#[32]⟩, .string ⟨#[61]⟩, .string ⟨#[10]⟩, .string ⟨#[93]⟩, .string ⟨#[120]⟩, .string ⟨#[255]⟩, .string ⟨#[45]⟩] 9)) fun e w' => ∃ s, s ∈ bendL ∧ e = .returned (.string s) ∧ CurAt w' cb a len cap ∧ ButFor cb w w' :=
  str_new w cb len cap 13 13 a bendL _ 9 rfl rfl (by decide) (by decide) hc
set_option maxRecDepth 100000 in
set_option maxHeartbeats 2000000 in
theorem bend_core (w W : World) (cb len cap K n c : Nat) (a : Option Addr) (s : ByteArray) (hn : n ≤ 700) (hcv : (convert 9 22 (.string s)).run Tryz.prog w = .ok (.slice (some ⟨K, 0, none⟩) n c) W)
    (HR : Hid (Row8 W K n c)) (HC : Hid (CurAt W cb a len cap)) (HB : Hid (ButFor cb w W)) (hcb : Hid (cb < K)) (hwK : Hid (w.heap.size ≤ K)) (hrow : Hid (0 < len → ∀ b off, a = some ⟨b, off, none⟩ → b < K)) :
    Calls Tryz.prog 16 #[.pointer (some ⟨cb, 0, none⟩), .string s] w fun e w' => ∃ s' : ByteArray, e = .returned (.string s') ∧ s'.size ≤ 800 ∧ CurAt w' cb a len cap ∧ ButFor cb w w' := by
  have hne : Hid (K ≠ cb) := by have := hcb.out; show K ≠ cb; omega
  go_enter Tryz.func16, Tryz.ntmps16
  go_wp2_with fail
  refine (below_any _ _ _ _ _ _ (by omega) HC.out).mono ?_
  rintro e w2 ⟨x, rfl, hx0, hx1, hc2, hb2⟩
  have HC2 : Hid _ := hc2
  have HB2 : Hid _ := HB.out.trans hb2
  have HR2 : Hid _ := row_stays HR.out hb2 hne.out
  clear hc2 hb2 HC HB HR hcv hx1
  by_cases x0 : x = 0
  · subst x0
    by_cases hn0 : n = 0
    · subst hn0
      go_wp2
      refine upon_of_run (conv_run _ _ _ _ HR2.out.cells) ?_
      go_wp2
      go_ret
      exact bend_end (by rw [strAt_size]; omega) HC2.out HB2.out
    · have hn1 : (0 : Int) < n := by omega
      go_wp2_with fail
      refine (below_any _ _ _ _ _ _ (by omega) HC2.out).mono ?_
      rintro e w3 ⟨y, rfl, hy0, hy1, hc3, hb3⟩
      obtain ⟨i, rfl⟩ : ∃ i : Nat, y = i := ⟨y.toNat, by omega⟩
      have hi : i < n := by omega
      have hi' : (i : Int) < n := by omega
      have HC3 : Hid _ := hc3
      have HB3 : Hid _ := HB2.out.trans hb3
      have HR3 : Hid _ := row_stays HR2.out hb3 hne.out
      clear hc3 hb3 hy1
      obtain ⟨z, hz⟩ := HR3.out.cells i hi
      have hKlt := HR3.out.here
      go_wp2_with fail
      go_region_with (go_at_call 27; refine (below_any _ _ _ _ _ _ (by decide) HC3.out.drew).mono ?_; rintro e w4 ⟨y4, rfl, hy40, hy41, hc4, hb4⟩; have hz4 : w4.cell? ⟨K, i, none⟩ = some (.int .u8 z) := (hb4.cell (p := ⟨K, i, none⟩) hKlt hne.out).trans hz; have hf4 : w4.frozen? ⟨K, i, none⟩ = false := (hb4.frozen (p := ⟨K, i, none⟩) hKlt hne.out).trans ((HR3.out.spare i (Nat.lt_of_lt_of_le hi HR3.out.fits)).2); have HC4 : Hid _ := hc4; have HB4 : Hid _ := HB3.out.drew.trans hb4; have HR4 : Hid _ := row_stays (HR3.out.stays (w' := w3.drew) (Nat.le_refl _) rfl) hb4 hne.out; clear hc4 hb4 hy41)
      all_goals
        go_wp2
        refine upon_of_run (conv_run _ _ _ _ (cells_set HR4.out i hi _)) ?_
        go_wp2
        go_ret
        exact bend_end (by rw [strAt_size]; omega) (Kept.cur (Kept.setCell _ _ _ _) HC4.out hcb.out hrow.out) (Kept.but (Kept.setCell _ _ _ _) hwK.out HB4.out)
  · have e0 : (x == 0) = false := by simpa using x0
    by_cases x1 : x = 1
    · subst x1
      by_cases hn0 : n = 0
      · subst hn0
        go_wp2
        refine upon_of_run (conv_run _ _ _ _ HR2.out.cells) ?_
        go_wp2
        go_ret
        exact bend_end (by rw [strAt_size]; omega) HC2.out HB2.out
      · have hn1 : (0 : Int) < n := by omega
        go_wp2_with fail
        refine (below_any _ _ _ _ _ _ (by omega) HC2.out).mono ?_
        rintro e w3 ⟨y, rfl, hy0, hy1, hc3, hb3⟩
        obtain ⟨i, rfl⟩ : ∃ i : Nat, y = i := ⟨y.toNat, by omega⟩
        have hi : i < n := by omega
        have hi' : (i : Int) < n := by omega
        have HC3 : Hid _ := hc3
        have HB3 : Hid _ := HB2.out.trans hb3
        have HR3 : Hid _ := row_stays HR2.out hb3 hne.out
        clear hc3 hb3 hy1
        have hnc := HR3.out.fits
        have hc63 := HR3.out.short
        unfold maxLen at hc63
        have hwr : IntKind.i64.wrap ((i : Int) + 1) = (i : Int) + 1 := by rw [IntKind.wrap_i64]; omega
        have hp0 : (0 : Int) ≤ (i : Int) + 1 := by omega
        have hp1 : (i : Int) + 1 ≤ (n : Int) := by omega
        have hp2 : ((i : Int) + 1).toNat = i + 1 := by omega
        have hic : i ≤ c := by omega
        have hwk : Hid (w.heap.size ≤ w3.drew.heap.size) := HB3.out.size
        by_cases hci : c = i + 1
        · obtain rfl : n = i + 1 := by omega
          subst hci
          have hq : (i : Int) ≤ (i : Int) + 1 := by omega
          have HS : Hid (Src Tryz.prog 1 22 (.slice (some ⟨K, 0, none⟩) 0 0) 0 ((numsAt w3.drew K 0 0).map (Value.int .u8)) w3.drew) := src_piece w3.drew K 0 0 0 (fun j hj => by omega)
          go_wp2_with fail
          go_region_law (refine step_append8 rfl (.tmp 46) (.tmp 50) 22 rfl K i (i + 1) w.heap.size (.slice (some ⟨K, 0, none⟩) 0 0) 0 _ (by simp [Act.eval, Act.put]) (by simp [Act.eval, Act.put]) hwK.out hwk.out (Row8.drew (Row8.part HR3.out (Nat.le_of_lt hi))) HS.out (nums_u8 _) (by omega) ?_; intro g' c' w4 hr4 hB4 hk4)
          have HR4 : Hid _ := hr4
          have HC4 : Hid _ := Kept.cur hk4 HC3.out.drew hcb.out hrow.out
          have HB4 : Hid _ := Kept.but hk4 hwK.out HB3.out.drew
          clear hr4 hk4
          go_wp2
          refine upon_of_run (conv_run _ _ _ _ HR4.out.cells) ?_
          go_wp2
          go_ret
          exact bend_end (by rw [strAt_size]; omega) HC4.out HB4.out
        · have HS : Hid (Src Tryz.prog 1 22 (.slice (some ⟨K, i + 1, none⟩) (n - (i + 1)) (c - (i + 1))) (n - (i + 1)) ((numsAt w3.drew K (i + 1) (n - (i + 1))).map (Value.int .u8)) w3.drew) := src_piece w3.drew K (i + 1) (n - (i + 1)) (c - (i + 1)) (fun j hj => HR3.out.cells (i + 1 + j) (by omega))
          go_wp2_with fail
          go_region_law (refine step_append8 rfl (.tmp 46) (.tmp 50) 22 rfl K i c w.heap.size (.slice (some ⟨K, i + 1, none⟩) (n - (i + 1)) (c - (i + 1))) (n - (i + 1)) _ (by simp [Act.eval, Act.put]) (by simp [Act.eval, Act.put]) hwK.out hwk.out (Row8.drew (Row8.part HR3.out (Nat.le_of_lt hi))) HS.out (nums_u8 _) (by omega) ?_; intro g' c' w4 hr4 hB4 hk4)
          have HR4 : Hid _ := hr4
          have HC4 : Hid _ := Kept.cur hk4 HC3.out.drew hcb.out hrow.out
          have HB4 : Hid _ := Kept.but hk4 hwK.out HB3.out.drew
          clear hr4 hk4
          go_wp2
          refine upon_of_run (conv_run _ _ _ _ HR4.out.cells) ?_
          go_wp2
          go_ret
          exact bend_end (by rw [strAt_size]; omega) HC4.out HB4.out
    · have e1 : (x == 1) = false := by simpa using x1
      by_cases x2 : x = 2
      · subst x2
        go_wp2_with fail
        refine (below_any _ _ _ _ _ _ (by omega) HC2.out).mono ?_
        rintro e w3 ⟨y, rfl, hy0, hy1, hc3, hb3⟩
        obtain ⟨i, rfl⟩ : ∃ i : Nat, y = i := ⟨y.toNat, by omega⟩
        have hi : i ≤ n := by omega
        have hi' : (i : Int) ≤ n := by omega
        have HC3 : Hid _ := hc3
        have HB3 : Hid _ := HB2.out.trans hb3
        have HR3 : Hid _ := row_stays HR2.out hb3 hne.out
        clear hc3 hb3 hy1
        go_wp2_with fail
        refine (bend_list _ _ _ _ _ HC3.out).mono ?_
        rintro e w4 ⟨u, hu, rfl, hc4, hb4⟩
        have hus := bendL_size u hu
        have HC4 : Hid _ := hc4
        have HB4 : Hid _ := HB3.out.trans hb4
        have HR4 : Hid _ := row_stays HR3.out hb4 hne.out
        clear hc4 hb4 hu
        have hnc := HR4.out.fits
        have hc63 := HR4.out.short
        unfold maxLen at hc63
        have hic : i ≤ c := by omega
        have hKl := HR4.out.here
        have hcbl := hcb.out
        have hw4 : Hid (w.heap.size ≤ w4.heap.size) := HB4.out.size
        have hBw : Hid (w4.heap.size ≤ (w4.drew.alloc (.cells #[] 5)).heap.size) := (Kept.alloc w4.drew 0 _).size
        have HRK : Hid (Row8 (w4.drew.alloc (.cells #[] 5)) K n c) := Row8.kept (Row8.drew HR4.out) (Kept.alloc w4.drew w4.heap.size _) (by omega)
        have hw4' := hw4.out
        by_cases hci : c = i
        · obtain rfl : i = n := by omega
          obtain rfl : i = c := hci.symm
          have HSA : Hid (Src Tryz.prog 1 22 (.slice (some ⟨K, 0, none⟩) i i) i ((numsAt (w4.drew.alloc (.cells #[] 5)) K 0 i).map (Value.int .u8)) (w4.drew.alloc (.cells #[] 5))) := src_piece _ K 0 i i (fun j hj => by rw [Nat.zero_add]; exact HRK.out.cells j (by omega))
          go_wp2_with fail
          go_region_law (first
            | (refine step_append8 rfl (.tmp 62) (.tmp 65) 22 rfl w4.heap.size 0 0 w4.heap.size (.slice (some ⟨K, 0, none⟩) i i) i _ (by simp [Act.eval, Act.put]) (by simp [Act.eval, Act.put]) (Nat.le_refl _) hBw.out (row_empty w4.drew) HSA.out (nums_u8 _) (by omega) ?_
               intro g1 c1 w5 hr5 hB5 hk5
               have HR5 : Hid (Row8 w5 g1 (0 + i) c1) := hr5
               have HK5 : Hid (Kept w4.heap.size (w4.drew.alloc (.cells #[] 5)) w5) := hk5
               have HG1 : Hid (w4.heap.size ≤ g1) := hB5
               clear hr5 hk5 hB5)
            | (refine step_append8 rfl (.tmp 66) (.tmp 67) 9 rfl g1 (0 + i) c1 w4.heap.size (.string u) u.size _ (by simp [Act.eval, Act.put]) (by simp [Act.eval, Act.put]) HG1.out (Nat.le_trans hBw.out HK5.out.size) HR5.out (Src.ofString w5 Tryz.underlying9 u) (bytes_u8 u) (by omega) ?_
               intro g2 c2 w6 hr6 hB6 hk6
               have HR6 : Hid (Row8 w6 g2 (0 + i + u.size) c2) := hr6
               have HK6 : Hid (Kept g1 w5 w6) := hk6
               have HG2 : Hid (w4.heap.size ≤ g2) := hB6
               clear hr6 hk6 hB6)
            | (refine step_append8 rfl (.tmp 68) (.tmp 71) 22 rfl g2 (0 + i + u.size) c2 w4.heap.size (.slice (some ⟨K, 0, none⟩) 0 0) 0 _ (by simp [Act.eval, Act.put]) (by simp [Act.eval, Act.put]) HG2.out (Nat.le_trans (Nat.le_trans hBw.out HK5.out.size) HK6.out.size) HR6.out (src_piece w6 K 0 0 0 (fun j hj => (Row8.kept (Row8.kept HRK.out HK5.out (by omega)) HK6.out (by have := HG1.out; omega)).cells _ (by omega))) (nums_u8 _) (by omega) ?_
               intro g3 c3 w7 hr7 hB7 hk7
               have HR7 : Hid (Row8 w7 g3 (i + u.size) c3) := by rw [Nat.zero_add, Nat.add_zero] at hr7; exact hr7
               have HK7 : Hid (Kept g2 w6 w7) := hk7
               clear hr7 hk7 hB7))
          all_goals
            go_wp2
            refine upon_of_run (conv_run _ _ _ _ HR7.out.cells) ?_
            go_wp2
            go_ret
            exact bend_end (by rw [strAt_size]; omega)
              (Kept.cur HK7.out (Kept.cur HK6.out (Kept.cur HK5.out (CurAt.alloc HC4.out.drew _) (by omega) (fun h b o e => by have := hrow.out h b o e; omega)) (by have := HG1.out; omega) (fun h b o e => by have := hrow.out h b o e; have := HG1.out; omega)) (by have := HG2.out; omega) (fun h b o e => by have := hrow.out h b o e; have := HG2.out; omega))
              (Kept.but HK7.out (by have := HG2.out; omega) (Kept.but HK6.out (by have := HG1.out; omega) (Kept.but HK5.out hw4.out (ButFor.alloc HB4.out.drew _))))
        · have hcin : ¬ c = i := hci
          have HSA : Hid (Src Tryz.prog 1 22 (.slice (some ⟨K, 0, none⟩) i c) i ((numsAt (w4.drew.alloc (.cells #[] 5)) K 0 i).map (Value.int .u8)) (w4.drew.alloc (.cells #[] 5))) := src_piece _ K 0 i c (fun j hj => by rw [Nat.zero_add]; exact HRK.out.cells j (by omega))
          go_wp2_with fail
          go_region_law (first
            | (refine step_append8 rfl (.tmp 62) (.tmp 65) 22 rfl w4.heap.size 0 0 w4.heap.size (.slice (some ⟨K, 0, none⟩) i c) i _ (by simp [Act.eval, Act.put]) (by simp [Act.eval, Act.put]) (Nat.le_refl _) hBw.out (row_empty w4.drew) HSA.out (nums_u8 _) (by omega) ?_
               intro g1 c1 w5 hr5 hB5 hk5
               have HR5 : Hid (Row8 w5 g1 (0 + i) c1) := hr5
               have HK5 : Hid (Kept w4.heap.size (w4.drew.alloc (.cells #[] 5)) w5) := hk5
               have HG1 : Hid (w4.heap.size ≤ g1) := hB5
               clear hr5 hk5 hB5)
            | (refine step_append8 rfl (.tmp 66) (.tmp 67) 9 rfl g1 (0 + i) c1 w4.heap.size (.string u) u.size _ (by simp [Act.eval, Act.put]) (by simp [Act.eval, Act.put]) HG1.out (Nat.le_trans hBw.out HK5.out.size) HR5.out (Src.ofString w5 Tryz.underlying9 u) (bytes_u8 u) (by omega) ?_
               intro g2 c2 w6 hr6 hB6 hk6
               have HR6 : Hid (Row8 w6 g2 (0 + i + u.size) c2) := hr6
               have HK6 : Hid (Kept g1 w5 w6) := hk6
               have HG2 : Hid (w4.heap.size ≤ g2) := hB6
               clear hr6 hk6 hB6)
            | (refine step_append8 rfl (.tmp 68) (.tmp 71) 22 rfl g2 (0 + i + u.size) c2 w4.heap.size (.slice (some ⟨K, i, none⟩) (n - i) (c - i)) (n - i) _ (by simp [Act.eval, Act.put]) (by simp [Act.eval, Act.put]) HG2.out (Nat.le_trans (Nat.le_trans hBw.out HK5.out.size) HK6.out.size) HR6.out (src_piece w6 K i (n - i) (c - i) (fun j hj => (Row8.kept (Row8.kept HRK.out HK5.out (by omega)) HK6.out (by have := HG1.out; omega)).cells _ (by omega))) (nums_u8 _) (by omega) ?_
               intro g3 c3 w7 hr7 hB7 hk7
               have HR7 : Hid (Row8 w7 g3 (i + u.size + (n - i)) c3) := by rw [Nat.zero_add] at hr7; exact hr7
               have HK7 : Hid (Kept g2 w6 w7) := hk7
               clear hr7 hk7 hB7))
          all_goals
            go_wp2
            refine upon_of_run (conv_run _ _ _ _ HR7.out.cells) ?_
            go_wp2
            go_ret
            exact bend_end (by rw [strAt_size]; omega)
              (Kept.cur HK7.out (Kept.cur HK6.out (Kept.cur HK5.out (CurAt.alloc HC4.out.drew _) (by omega) (fun h b o e => by have := hrow.out h b o e; omega)) (by have := HG1.out; omega) (fun h b o e => by have := hrow.out h b o e; have := HG1.out; omega)) (by have := HG2.out; omega) (fun h b o e => by have := hrow.out h b o e; have := HG2.out; omega))
              (Kept.but HK7.out (by have := HG2.out; omega) (Kept.but HK6.out (by have := HG1.out; omega) (Kept.but HK5.out hw4.out (ButFor.alloc HB4.out.drew _))))
      · have e2 : (x == 2) = false := by simpa using x2
        go_wp2
        refine upon_of_run (conv_run _ _ _ _ HR2.out.cells) ?_
        go_wp2
        go_ret
        exact bend_end (by rw [strAt_size]; omega) HC2.out HB2.out
/-- l1Bend returns some text. -/
theorem bend_any (w : World) (cb len cap : Nat) (a : Option Addr) (s : ByteArray) (hs : s.size ≤ 700) (hc : CurAt w cb a len cap) :
    Calls Tryz.prog 16 #[.pointer (some ⟨cb, 0, none⟩), .string s] w fun e w' => ∃ s' : ByteArray, e = .returned (.string s') ∧ s'.size ≤ 800 ∧ CurAt w' cb a len cap ∧ ButFor cb w w' :=
  bend_core w _ cb len cap w.heap.size s.size _ a s hs (Lib.run_convert_string_bytes w 9 22 5 s Tryz.underlying9 Tryz.underlying22 Tryz.underlying5) (row_bytes w s (by unfold maxLen; omega)) (hc.stays (Nat.le_refl _) (bytes_below _ _ _)) (ButFor.of_below (bytes_below _ _ _)) hc.here (Nat.le_refl _)
    (fun h0 b off ha => by
      obtain ⟨b', off', ha', hb', _⟩ := hc.row.row h0
      rw [ha] at ha'
      simp at ha'
      omega)
end Go.Proofs.YtekbpekfomblbaaGreatDoor.draws
namespace Go.Proofs.YtekbpekfomblbaaGreatDoor.draws
open Go.ChangeShapes Go.WideShapes Go.ChangeAt Go.RowKit
set_option linter.unusedVariables false
/-- A slice of bytes that came in, as the law's frame tells it. -/
theorem rowAt_of {w : World} {a : Option Addr} {len cap : Nat} {zs : List Int}
    (h : (a = none ∧ len = 0 ∧ cap = 0 ∧ zs = []) ∨ ∃ x, a = some x ∧ len ≤ cap ∧ cap ≤ maxLen ∧ zs.length = cap ∧ (∀ i, i < zs.length → w.cell? (x.add i) = some (.int .u8 (zs.getD i 0))) ∧ ∀ n ∈ zs, (Lit.int .u8 n).wf = true) : RowAt w a len := by
  rcases h with ⟨rfl, rfl, rfl, rfl⟩ | ⟨x, rfl, hl, hm, hz, hcell, hwz⟩
  · exact ⟨Nat.zero_le _, fun h => by omega⟩
  · refine ⟨Nat.le_trans hl hm, fun h0 => ?_⟩
    obtain ⟨b, off, spot⟩ := x
    have hc := hcell 0 (by omega)
    have hspot : spot = none := by simpa [Addr.add] using World.cell?_spot hc
    subst hspot
    have hpl : ∀ i, (⟨b, off, none⟩ : Addr).add i = ⟨b, off + i, none⟩ := fun i => Addr.add_lit _ _ _
    refine ⟨b, off, rfl, ?_, fun j hj => ⟨zs.getD j 0, by rw [← hpl]; exact hcell j (by omega), ?_⟩⟩
    · rcases Nat.lt_or_ge b w.heap.size with h1 | h1
      · exact h1
      · simp [World.cell?, Addr.add, Array.getElem?_eq_none h1] at hc
    · have hmem : zs.getD j 0 ∈ zs := by
        have hj' : j < zs.length := by omega
        simp [List.getD, List.getElem?_eq_getElem hj']
      exact bounds_u8 (hwz _ hmem)
end Go.Proofs.YtekbpekfomblbaaGreatDoor.draws
