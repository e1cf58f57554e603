/-
  Blanks of a text turned into spaces: what they are, the row that is turned in, and the program's plainBlanks.
-/
import Derived.Test.YtekbpekfomblbaaGreatDoorBlanksP
import Derived.Laws.IdiomStrings
import Derived.Lib.ConvBytes
namespace Go.Proofs.YtekbpekfomblbaaGreatDoor.unbl
open Go.ChangeShapes Go.WideShapes Go.ChangeAt Go.RowKit
open blanks (blkB)
set_option linter.unusedVariables false
theorem bytes_below (w : World) (e : TypeId) (s : ByteArray) : Below w.heap.size w (Lib.bytesWorld w e s) := by
  refine ⟨rfl, rfl, rfl, ?_, fun k hk => Lib.bytesWorld_at_old w e s k hk⟩
  rw [Lib.bytesWorld_size]; omega
theorem getD_get! (s : ByteArray) (j : Nat) (h : j < s.size) : s.data.toList.getD j 0 = s.get! j := by
  have := get_at s j h
  simp only [Nat.add_zero] at this
  rw [this, List.getD_eq_getElem?_getD, List.getElem?_eq_getElem (by rw [Array.length_toList]; exact h)]
  rfl
def one (b : UInt8) : UInt8 := if blkB ((b.toNat : Nat) : Int) = true then 32 else b
/-- A text's blanks as spaces. -/
def plain (s : ByteArray) : ByteArray := ⟨(s.data.toList.map one).toArray⟩
theorem plain_size (s : ByteArray) : (plain s).size = s.size := by
  show (List.toArray _).size = s.data.size
  simp
/-- A row of a text's bytes, the first k of which are turned. -/
structure RowB (w wr : World) (s : ByteArray) (k : Nat) : Prop where
  blk : ∃ (cur : Array Value) (fr : Nat × Nat), wr.heap[w.heap.size]? = some (.cells cur 5 fr) ∧ s.size ≤ cur.size ∧ s.size ≤ fr.1 ∧ ∀ j, j < s.size → cur[j]? = some (.int .u8 (((if j < k then one (s.get! j) else s.get! j).toNat : Nat) : Int))
  bel : Below w.heap.size w wr
theorem RowB.cell {w wr : World} {s : ByteArray} {k : Nat} (h : RowB w wr s k) {j : Nat} (hj : j < s.size) : wr.cell? ⟨w.heap.size, j, none⟩ = some (.int .u8 (((if j < k then one (s.get! j) else s.get! j).toNat : Nat) : Int)) ∧ wr.frozen? ⟨w.heap.size, j, none⟩ = false := by
  obtain ⟨cur, fr, h1, h2, h3, h4⟩ := h.blk
  refine ⟨?_, ?_⟩
  · rw [← h4 j hj]
    simp [World.cell?, h1]
  · obtain ⟨lo, hi⟩ := fr
    have h3' : s.size ≤ lo := h3
    simp [World.frozen?, h1]
    omega
theorem RowB.start (w : World) (s : ByteArray) : RowB w (Lib.bytesWorld w 5 s) s 0 := by
  have hc := Lib.bytesWorld_at_new w 5 s
  have hz : s.size ≤ (Lib.bytesCells w 5 s).size := by
    by_cases h0 : s.size = 0
    · omega
    · have h1 := Lib.bytesWorld_cell w 5 s (s.size - 1) (by omega)
      simp [World.cell?, hc] at h1
      have := (Array.getElem?_eq_some_iff.1 h1).1
      omega
  refine ⟨⟨_, _, hc, hz, hz, fun j hj => ?_⟩, bytes_below w 5 s⟩
  have h1 := Lib.bytesWorld_cell w 5 s j hj
  rw [getD_get! s j hj] at h1
  simp only [World.cell?, hc] at h1
  rw [if_neg (by omega)]
  exact h1
theorem one_yes {b : UInt8} (h : blkB ((b.toNat : Nat) : Int) = true) : one b = 32 := if_pos h
theorem one_no {b : UInt8} (h : blkB ((b.toNat : Nat) : Int) = false) : one b = b := if_neg (by rw [h]; decide)
theorem RowB.skip {w wr : World} {s : ByteArray} {k : Nat} (h : RowB w wr s k) (hb : blkB (((s.get! k).toNat : Nat) : Int) = false) : RowB w wr s (k + 1) := by
  obtain ⟨cur, fr, h1, h2, h3, h4⟩ := h.blk
  refine ⟨⟨cur, fr, h1, h2, h3, fun j hj => ?_⟩, h.bel⟩
  rw [h4 j hj]
  by_cases e : j = k
  · subst e
    rw [if_neg (by omega), if_pos (by omega), one_no hb]
  · by_cases hl : j < k
    · rw [if_pos hl, if_pos (by omega)]
    · rw [if_neg hl, if_neg (by omega)]
theorem RowB.turn {w wr : World} {s : ByteArray} {k : Nat} (h : RowB w wr s k) (hk : k < s.size) (hb : blkB (((s.get! k).toNat : Nat) : Int) = true) : RowB w (wr.setCell ⟨w.heap.size, k, none⟩ (.int .u8 32)) s (k + 1) := by
  obtain ⟨cur, fr, h1, h2, h3, h4⟩ := h.blk
  have hw := (Array.getElem?_eq_some_iff.1 h1).1
  refine ⟨⟨cur.setIfInBounds k (.int .u8 32), fr, ?_, by simpa using h2, h3, fun j hj => ?_⟩, h.bel.setCell (p := ⟨w.heap.size, k, none⟩) (Nat.le_refl _) _⟩
  · simp [World.setCell, Array.getElem?_modify, h1]
  · by_cases e : j = k
    · subst e
      rw [Array.getElem?_setIfInBounds_self_of_lt (by omega), if_pos (by omega), one_yes hb]
      rfl
    · rw [Array.getElem?_setIfInBounds_ne (by omega), h4 j hj]
      by_cases hl : j < k
      · rw [if_pos hl, if_pos (by omega)]
      · rw [if_neg hl, if_neg (by omega)]
theorem RowB.back {w wr : World} {s : ByteArray} (h : RowB w wr s s.size) (c : Nat) : (convert 22 9 (.slice (some ⟨w.heap.size, 0, none⟩) s.size c)).run Tryz.prog wr = .ok (.string (plain s)) wr := by
  have hl : (s.data.toList.map one).length = s.size := by simp
  have := run_convert_bytes_back (P := Tryz.prog) wr 22 9 5 ⟨w.heap.size, 0, none⟩ c (s.data.toList.map one) Tryz.underlying22 Tryz.underlying5 Tryz.underlying9 (fun j hj => by
    have hj' : j < s.size := by rw [hl] at hj; exact hj
    rw [Addr.add_lit, Nat.zero_add, (h.cell hj').1, if_pos hj', List.getElem_map]
    have := getD_get! s j hj'
    rw [List.getD_eq_getElem?_getD, List.getElem?_eq_getElem (by rw [Array.length_toList]; exact hj')] at this
    simp only [Option.getD_some] at this
    rw [this])
  rw [hl] at this
  exact this
set_option maxRecDepth 100000 in
set_option maxHeartbeats 2000000 in
theorem impl_plain (s : ByteArray) (w : World) (hs : s.size ≤ maxLen) : Calls Tryz.prog 90 #[.string s] w fun e w' => e = .returned (.string (plain s)) ∧ Below w.heap.size w w' := by
  unfold maxLen at hs
  obtain ⟨c, hcv⟩ : ∃ c, (convert 9 22 (.string s)).run Tryz.prog w = .ok (.slice (some ⟨w.heap.size, 0, none⟩) s.size c) (Lib.bytesWorld w 5 s) := ⟨_, Lib.run_convert_string_bytes w 9 22 5 s Tryz.underlying9 Tryz.underlying22 Tryz.underlying5⟩
  have HR0 : Hid (RowB w (Lib.bytesWorld w 5 s) s 0) := RowB.start w s
  obtain ⟨W, hW⟩ : ∃ W, Lib.bytesWorld w 5 s = W := ⟨_, rfl⟩
  rw [hW] at hcv HR0
  clear hW
  go_enter Tryz.func90, Tryz.ntmps90
  go_wp2
  go_loopw [9] (fun t wr => ∃ k : Nat, k ≤ s.size ∧ t = .int .i64 k ∧ Hid (RowB w wr s k)) (fun t _ => s.size - (intOf t).toNat)
  case atStart => exact ⟨0, Nat.zero_le _, rfl, HR0⟩
  case round =>
    obtain ⟨k, hk, rfl, hR⟩ := hrel
    by_cases hlt : k < s.size
    · obtain ⟨hx, hfz⟩ := hR.out.cell hlt
      rw [if_neg (by omega)] at hx
      have hb := (s.get! k).toNat_lt
      obtain ⟨x, ex⟩ : ∃ x, x = ((s.get! k).toNat : Int) := ⟨_, rfl⟩
      have hx0 : 0 ≤ x := by omega
      have hx1 : x < 256 := by omega
      rw [← ex] at hx
      have EX : Hid (x = ((s.get! k).toNat : Int)) := ex
      clear ex hb
      cases hbk : blkB x
      · have HN : Hid (RowB w wr s (k + 1)) := hR.out.skip (by rw [← EX.out]; exact hbk)
        go_wp2_with (go_at_call 29; refine (blanks.impl_blank _ _).mono ?_; rintro e w' ⟨rfl, rfl⟩)
        go_roundw
        case rel => exact ⟨k + 1, by omega, by go_num, HN.out⟩
        case measure => simp [intOf]; omega
      · have HN : Hid (RowB w (wr.setCell ⟨w.heap.size, k, none⟩ (.int .u8 32)) s (k + 1)) := hR.out.turn hlt (by rw [← EX.out]; exact hbk)
        go_wp2_with (go_at_call 29; refine (blanks.impl_blank _ _).mono ?_; rintro e w' ⟨rfl, rfl⟩)
        go_roundw
        case rel => exact ⟨k + 1, by omega, by go_num, HN.out⟩
        case measure => simp [intOf]; omega
    · obtain rfl : k = s.size := by omega
      have hback := hR.out.back c
      go_wp2
      go_ret
      exact ⟨rfl, hR.out.bel⟩
end Go.Proofs.YtekbpekfomblbaaGreatDoor.unbl
