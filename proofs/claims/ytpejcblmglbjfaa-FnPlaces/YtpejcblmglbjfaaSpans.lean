/-
  Which signs may stand in a text, begin a name, stand in a name: what the specification and the program answer, over the program's own tables.
-/
import Derived.Test.YtpejcblmglbjfaaRows
import Derived.WalkKit
import Derived.ProofKit
import Derived.Outline
import Derived.LoopTactic
import Derived.OwnWalk
import Derived.Below
import Derived.Deep.QuietTactic
import Derived.BigQuiet
import Derived.WalkSmall
import Derived.Deep.SlicePairs
namespace Go.Proofs.Ytpejcblmglbjfaa.spans
open Go.ChangeShapes Go.WideShapes Go.ChangeAt Go.RowKit
set_option linter.unusedVariables false

/-! ### The plain part -/
def inOne (lo hi n : Int) : Bool := decide (lo ≤ n ∧ n ≤ hi)
theorem one_yes {lo hi n : Int} (h : lo ≤ n) (h1 : n ≤ hi) : inOne lo hi n = true := decide_eq_true ⟨h, h1⟩
theorem one_no {lo hi n : Int} (h : n < lo ∨ hi < n) : inOne lo hi n = false := decide_eq_false (by omega)
def inB (L : List (Int × Int)) (n : Int) : Bool := L.any fun p => inOne p.1 p.2 n
theorem in_hit {L : List (Int × Int)} {n : Int} {k : Nat} (hk : k < L.length) (h : inOne (L.getD k (0, 0)).1 (L.getD k (0, 0)).2 n = true) : inB L n = true := by
  unfold inB
  rw [List.any_eq_true]
  refine ⟨L[k], List.getElem_mem hk, ?_⟩
  simpa [List.getD, List.getElem?_eq_getElem hk] using h
theorem in_miss {L : List (Int × Int)} {n : Int} {k : Nat} (hk : k < L.length) (h0 : inB (L.take k) n = false) (h : inOne (L.getD k (0, 0)).1 (L.getD k (0, 0)).2 n = false) : inB (L.take (k + 1)) n = false := by
  unfold inB at h0 ⊢
  rw [List.take_succ_eq_append_getElem hk, List.any_append, h0]
  simpa [List.getD, List.getElem?_eq_getElem hk] using h
theorem in_end {L : List (Int × Int)} {n : Int} {k : Nat} (hk : ¬ k < L.length) (h0 : inB (L.take k) n = false) : inB L n = false := by
  rwa [List.take_of_length_le (by omega)] at h0
theorem ret_bool {a b : Bool} (h : a = b) : Ending.returned (.bool a) = .returned (.bool b) := by rw [h]

/-! ### One span -/
set_option maxHeartbeats 400000 in
theorem in_any (lo hi n : Int) (w : World) : Calls Try.prog 53 #[.int .i64 n, .int .i64 lo, .int .i64 hi] w fun e w' => e = .returned (.bool (inOne lo hi n)) ∧ w' = w := by
  by_cases h : lo ≤ n
  · by_cases h1 : n ≤ hi
    · have hy : Hid (inOne lo hi n = true) := one_yes h h1
      go_enter Try.func53, Try.ntmps53
      go_wp2
      go_ret
      exact ⟨ret_bool hy.out.symm, rfl⟩
    · have hy : Hid (inOne lo hi n = false) := one_no (.inr (by omega))
      go_enter Try.func53, Try.ntmps53
      go_wp2
      go_ret
      exact ⟨ret_bool hy.out.symm, rfl⟩
  · have hy : Hid (inOne lo hi n = false) := one_no (.inl (by omega))
    go_enter Try.func53, Try.ntmps53
    go_wp2
    go_ret
    exact ⟨ret_bool hy.out.symm, rfl⟩

theorem below_step {B : Nat} {w wr w2 : World} {o : Obj} (hb : Below B w wr) (hB : B ≤ wr.heap.size) (hb2 : Below (wr.alloc o).heap.size (wr.alloc o) w2) : Below B w w2 :=
  (hb.alloc hB o).trans (hb2.mono (by simp; omega))

/-! ### A table of spans in memory -/
structure SpansAt (w : World) (g : Nat) (L : List (Int × Int)) (b off cap : Nat) : Prop where
  head : w.cell? ⟨g, 0, none⟩ = some (.slice (some ⟨b, off, none⟩) L.length cap)
  len : L.length ≤ maxLen
  old : b < w.heap.size
  gold : g < w.heap.size
  low : ∀ i, i < L.length → w.cell? ⟨b, off + i * 2, none⟩ = some (.int .i64 (L.getD i (0, 0)).1)
  high : ∀ i, i < L.length → w.cell? ⟨b, off + i * 2 + 1, none⟩ = some (.int .i64 (L.getD i (0, 0)).2)
theorem SpansAt.below {w w' : World} {g : Nat} {L : List (Int × Int)} {b off cap : Nat} (h : SpansAt w g L b off cap) {B : Nat} (hB : w.heap.size ≤ B) (hb : Below B w w') : SpansAt w' g L b off cap :=
  ⟨by rw [hb.cell (p := ⟨g, 0, none⟩) (Nat.lt_of_lt_of_le h.gold hB)]; exact h.head, h.len, Nat.lt_of_lt_of_le h.old hb.size, Nat.lt_of_lt_of_le h.gold hb.size,
   fun i hi => by rw [hb.cell (p := ⟨b, off + i * 2, none⟩) (Nat.lt_of_lt_of_le h.old hB)]; exact h.low i hi,
   fun i hi => by rw [hb.cell (p := ⟨b, off + i * 2 + 1, none⟩) (Nat.lt_of_lt_of_le h.old hB)]; exact h.high i hi⟩

/-! ### The program's loops -/
/-! ### The specification's -/
def signL : List (Int × Int) := [(9, 10), (13, 13), (32, 55295), (57344, 65533), (65536, 1114111)]
def startL : List (Int × Int) := [(65, 90), (95, 95), (97, 122), (192, 214), (216, 246), (248, 767), (880, 893), (895, 8191), (8204, 8205), (8304, 8591), (11264, 12271), (12289, 55295), (63744, 64975), (65008, 65533), (65536, 983039)]
def partL : List (Int × Int) := [(45, 46), (48, 57), (183, 183), (768, 879), (8255, 8256)]
theorem signL_eq (n : Int) : inB signL n = decide (n = 9 ∨ n = 10 ∨ n = 13 ∨ (32 ≤ n ∧ n ≤ 55295) ∨ (57344 ≤ n ∧ n ≤ 65533) ∨ (65536 ≤ n ∧ n ≤ 1114111)) := by
  rw [Bool.eq_iff_iff]
  simp [inB, signL, inOne]
  omega
theorem sign_yes {n : Int} (h : n = 9 ∨ n = 10 ∨ n = 13 ∨ (32 ≤ n ∧ n ≤ 55295) ∨ (57344 ≤ n ∧ n ≤ 65533) ∨ (65536 ≤ n ∧ n ≤ 1114111)) : inB signL n = true := by rw [signL_eq]; exact decide_eq_true h
theorem sign_no {n : Int} (h : ¬ (n = 9 ∨ n = 10 ∨ n = 13 ∨ (32 ≤ n ∧ n ≤ 55295) ∨ (57344 ≤ n ∧ n ≤ 65533) ∨ (65536 ≤ n ∧ n ≤ 1114111))) : inB signL n = false := by rw [signL_eq]; exact decide_eq_false h
set_option maxHeartbeats 1000000 in
theorem spec_sign_eq (n : Int) (h : n = 9 ∨ n = 10 ∨ n = 13) (w : World) : Calls Try.prog 127 #[.int .i64 n] w fun e w' => e = .returned (.bool (inB signL n)) ∧ w' = w := by
  have HY : Hid (inB signL n = true) := sign_yes (by omega)
  rcases h with rfl | rfl | rfl
  all_goals
      go_enter Try.func127, Try.ntmps127
      go_wp2
      go_ret
      exact ⟨ret_bool (by first | exact HY.out.symm | (rw [HY.out]; simp; omega)), rfl⟩
set_option maxHeartbeats 1000000 in
theorem spec_sign_lt32 (n : Int) (h9 : (n == 9) = false) (h10 : (n == 10) = false) (h13 : (n == 13) = false) (h : n < 32) (w : World) : Calls Try.prog 127 #[.int .i64 n] w fun e w' => e = .returned (.bool (inB signL n)) ∧ w' = w := by
  have HY : Hid (inB signL n = false) := sign_no (by simp at h9 h10 h13; omega)
  go_enter Try.func127, Try.ntmps127
  go_wp2
  go_ret
  exact ⟨ret_bool (by first | exact HY.out.symm | (rw [HY.out]; simp; omega)), rfl⟩
set_option maxHeartbeats 1000000 in
theorem spec_sign_a (n : Int) (h9 : (n == 9) = false) (h10 : (n == 10) = false) (h13 : (n == 13) = false) (h : 32 ≤ n ∧ n ≤ 55295) (w : World) : Calls Try.prog 127 #[.int .i64 n] w fun e w' => e = .returned (.bool (inB signL n)) ∧ w' = w := by
  have HY : Hid (inB signL n = true) := sign_yes (by simp at h9 h10 h13; omega)
  obtain ⟨h, h1⟩ := h
  go_enter Try.func127, Try.ntmps127
  go_wp2
  go_ret
  exact ⟨ret_bool (by first | exact HY.out.symm | (rw [HY.out]; simp; omega)), rfl⟩
set_option maxHeartbeats 1000000 in
theorem spec_sign_b (n : Int) (h9 : (n == 9) = false) (h10 : (n == 10) = false) (h13 : (n == 13) = false) (h : 55296 ≤ n ∧ n ≤ 57343) (w : World) : Calls Try.prog 127 #[.int .i64 n] w fun e w' => e = .returned (.bool (inB signL n)) ∧ w' = w := by
  have HY : Hid (inB signL n = false) := sign_no (by simp at h9 h10 h13; omega)
  obtain ⟨h, h1⟩ := h
  go_enter Try.func127, Try.ntmps127
  go_wp2
  go_ret
  exact ⟨ret_bool (by first | exact HY.out.symm | (rw [HY.out]; simp; omega)), rfl⟩
set_option maxHeartbeats 1000000 in
theorem spec_sign_c (n : Int) (h9 : (n == 9) = false) (h10 : (n == 10) = false) (h13 : (n == 13) = false) (h : 57344 ≤ n ∧ n ≤ 65533) (w : World) : Calls Try.prog 127 #[.int .i64 n] w fun e w' => e = .returned (.bool (inB signL n)) ∧ w' = w := by
  have HY : Hid (inB signL n = true) := sign_yes (by simp at h9 h10 h13; omega)
  obtain ⟨h, h1⟩ := h
  go_enter Try.func127, Try.ntmps127
  go_wp2
  go_ret
  exact ⟨ret_bool (by first | exact HY.out.symm | (rw [HY.out]; simp; omega)), rfl⟩
set_option maxHeartbeats 1000000 in
theorem spec_sign_d (n : Int) (h9 : (n == 9) = false) (h10 : (n == 10) = false) (h13 : (n == 13) = false) (h : 65534 ≤ n ∧ n ≤ 65535) (w : World) : Calls Try.prog 127 #[.int .i64 n] w fun e w' => e = .returned (.bool (inB signL n)) ∧ w' = w := by
  have HY : Hid (inB signL n = false) := sign_no (by simp at h9 h10 h13; omega)
  obtain ⟨h, h1⟩ := h
  go_enter Try.func127, Try.ntmps127
  go_wp2
  go_ret
  exact ⟨ret_bool (by first | exact HY.out.symm | (rw [HY.out]; simp; omega)), rfl⟩
set_option maxHeartbeats 1000000 in
theorem spec_sign_e (n : Int) (h9 : (n == 9) = false) (h10 : (n == 10) = false) (h13 : (n == 13) = false) (h : 65536 ≤ n ∧ n ≤ 1114111) (w : World) : Calls Try.prog 127 #[.int .i64 n] w fun e w' => e = .returned (.bool (inB signL n)) ∧ w' = w := by
  have HY : Hid (inB signL n = true) := sign_yes (by simp at h9 h10 h13; omega)
  obtain ⟨h, h1⟩ := h
  go_enter Try.func127, Try.ntmps127
  go_wp2
  go_ret
  exact ⟨ret_bool (by first | exact HY.out.symm | (rw [HY.out]; simp; omega)), rfl⟩
set_option maxHeartbeats 1000000 in
theorem spec_sign_f (n : Int) (h9 : (n == 9) = false) (h10 : (n == 10) = false) (h13 : (n == 13) = false) (h : 1114112 ≤ n) (w : World) : Calls Try.prog 127 #[.int .i64 n] w fun e w' => e = .returned (.bool (inB signL n)) ∧ w' = w := by
  have HY : Hid (inB signL n = false) := sign_no (by simp at h9 h10 h13; omega)
  go_enter Try.func127, Try.ntmps127
  go_wp2
  go_ret
  exact ⟨ret_bool (by first | exact HY.out.symm | (rw [HY.out]; simp; omega)), rfl⟩
theorem spec_sign (n : Int) (w : World) : Calls Try.prog 127 #[.int .i64 n] w fun e w' => e = .returned (.bool (inB signL n)) ∧ w' = w := by
  by_cases h : n = 9 ∨ n = 10 ∨ n = 13
  · exact spec_sign_eq n h w
  · have h9 : (n == 9) = false := by simp; omega
    have h10 : (n == 10) = false := by simp; omega
    have h13 : (n == 13) = false := by simp; omega
    rcases (show n < 32 ∨ (32 ≤ n ∧ n ≤ 55295) ∨ (55296 ≤ n ∧ n ≤ 57343) ∨ (57344 ≤ n ∧ n ≤ 65533) ∨ (65534 ≤ n ∧ n ≤ 65535) ∨ (65536 ≤ n ∧ n ≤ 1114111) ∨ 1114112 ≤ n by omega) with c | c | c | c | c | c | c
    · exact spec_sign_lt32 n h9 h10 h13 c w
    · exact spec_sign_a n h9 h10 h13 c w
    · exact spec_sign_b n h9 h10 h13 c w
    · exact spec_sign_c n h9 h10 h13 c w
    · exact spec_sign_d n h9 h10 h13 c w
    · exact spec_sign_e n h9 h10 h13 c w
    · exact spec_sign_f n h9 h10 h13 c w

/-! ### A list of spans as the specification lays it: two numbers a span, in a new row -/
def flat (L : List (Int × Int)) : List Int := L.flatMap fun p => [p.1, p.2]
set_option maxHeartbeats 1000000 in
theorem ranges_any (n : Int) (L : List (Int × Int)) (b c len : Nat) (w : World) (hlen : len ≤ 1000000) (hz : Hid (len = L.length * 2))
    (hlo : Hid (∀ k, k < L.length → w.cell? ⟨b, k * 2, none⟩ = some (.int .i64 (L.getD k (0, 0)).1))) (hhi : Hid (∀ k, k < L.length → w.cell? ⟨b, k * 2 + 1, none⟩ = some (.int .i64 (L.getD k (0, 0)).2))) :
    Calls Try.prog 126 #[.int .i64 n, .slice (some ⟨b, 0, none⟩) len c] w fun e w' => e = .returned (.bool (inB L n)) ∧ ∃ m, w' = w.drewN m := by
  go_enter Try.func126, Try.ntmps126
  go_wp2
  go_loopw [5] (fun t w' => ∃ k : Nat, k ≤ L.length ∧ t = .int .i64 ((k * 2 : Nat) : Int) ∧ Hid (∃ m, w' = w.drewN m) ∧ Hid (inB (L.take k) n = false)) (fun t _ => len - (intOf t).toNat)
  case atStart => exact ⟨0, Nat.zero_le _, rfl, ⟨0, rfl⟩, rfl⟩
  case round =>
    obtain ⟨k, hk, rfl, hd, hi⟩ := hrel
    by_cases hlt : k < L.length
    · have hl : wr.cell? ⟨b, k * 2, none⟩ = some (.int .i64 (L.getD k (0, 0)).1) := by obtain ⟨m, rfl⟩ := hd.out; exact hlo.out k hlt
      have hh : wr.cell? ⟨b, k * 2 + 1, none⟩ = some (.int .i64 (L.getD k (0, 0)).2) := by obtain ⟨m, rfl⟩ := hd.out; exact hhi.out k hlt
      obtain ⟨lo, elo⟩ : ∃ lo, lo = (L.getD k (0, 0)).1 := ⟨_, rfl⟩
      obtain ⟨hi', ehi⟩ : ∃ hi', hi' = (L.getD k (0, 0)).2 := ⟨_, rfl⟩
      rw [← elo] at hl
      rw [← ehi] at hh
      have ELO : Hid (lo = (L.getD k (0, 0)).1) := elo
      have EHI : Hid (hi' = (L.getD k (0, 0)).2) := ehi
      clear elo ehi
      have hz' := hz.out
      obtain ⟨i, ei⟩ : ∃ i, i = k * 2 := ⟨_, rfl⟩
      rw [← ei] at hl hh ⊢
      have hlt1 : i + 1 < len := by omega
      have hlt2 : i < len := by omega
      have hl1 : (i : Int) + 1 < len := by omega
      have hl2 : (i : Int) < len := by omega
      have hl0 : (0 : Int) ≤ (i : Int) + 1 := by omega
      have hwr : IntKind.i64.wrap ((i : Int) + 1) = (i : Int) + 1 := by rw [IntKind.wrap_i64]; omega
      have hto : ((i : Int) + 1).toNat = i + 1 := by omega
      have EI : Hid (i = k * 2) := ei
      clear ei hz'
      go_wp2
      go_quiet ((go_at_call 53; exact Calls.quiet_of_same (in_any _ _ _ _)))
      go_wp2
      · have hcT : inOne lo hi' n = true := by assumption
        go_ret
        exact ⟨ret_bool (in_hit hlt (by rw [← ELO.out, ← EHI.out]; exact hcT)).symm, (by obtain ⟨m, rfl⟩ := hd.out; exact ⟨m + nq, by rw [World.drewN_drewN]⟩)⟩
      · have hcF : inOne lo hi' n = false := by assumption
        go_roundw
        case rel => exact ⟨k + 1, by omega, by rw [EI.out]; go_num, (by obtain ⟨m, rfl⟩ := hd.out; exact ⟨m + nq, by rw [World.drewN_drewN]⟩), in_miss hlt hi.out (by rw [← ELO.out, ← EHI.out]; exact hcF)⟩
        case measure => simp [intOf]; omega
    · have hz' := hz.out
      obtain ⟨i, ei⟩ : ∃ i, i = k * 2 := ⟨_, rfl⟩
      rw [← ei]
      have hge : (len : Int) ≤ (i : Int) + 1 := by omega
      have hle : i ≤ len := by omega
      clear ei hz'
      go_wp2
      go_ret
      exact ⟨ret_bool (in_end hlt hi.out).symm, hd.out⟩
theorem flat_at : ∀ (L : List (Int × Int)) (k : Nat), k < L.length → (flat L)[k * 2]? = some (L.getD k (0, 0)).1 ∧ (flat L)[k * 2 + 1]? = some (L.getD k (0, 0)).2
  | [], k, h => by simp at h
  | p :: L, 0, _ => by simp [flat]
  | p :: L, k + 1, h => by
    have ih := flat_at L k (by simpa using h)
    have e1 : flat (p :: L) = p.1 :: p.2 :: flat L := by simp [flat]
    have e : (k + 1) * 2 = k * 2 + 1 + 1 := by omega
    rw [e1, e]
    simpa using ih
theorem cell_new (w : World) (C : Array Value) (t : TypeId) (i : Nat) (v : Value) (h : C[i]? = some v) : (w.alloc (.cells C t)).cell? ⟨w.heap.size, i, none⟩ = some v := by
  simp [h]
theorem ranges_new (n : Int) (L : List (Int × Int)) (w : World) (C : Array Value) (t : TypeId) (len c : Nat) (hC : C = ((flat L).map (Value.int .i64)).toArray) (hz : len = L.length * 2) (hlen : len ≤ 1000000) :
    Calls Try.prog 126 #[.int .i64 n, .slice (some ⟨w.heap.size, 0, none⟩) len c] (w.alloc (.cells C t)) fun e w' => e = .returned (.bool (inB L n)) ∧ Below w.heap.size w w' := by
  refine (ranges_any n L w.heap.size c len _ hlen hz (fun k hk => cell_new w C t _ _ ?_) (fun k hk => cell_new w C t _ _ ?_)).mono fun e w' ⟨he, m, hw⟩ => ⟨he, ?_⟩
  · rw [hC]; simp [(flat_at L k hk).1]
  · rw [hC]; simp [(flat_at L k hk).2]
  · rw [hw]; exact below_drewN ((Below.refl _ _).alloc (Nat.le_refl _) _) m
theorem start_ranges (n : Int) (w : World) : Calls Try.prog 126 #[.int .i64 n, .slice (some ⟨w.heap.size, 0, none⟩) 30 30] (w.alloc (.cells #[.int .i64 65, .int .i64 90, .int .i64 95, .int .i64 95, .int .i64 97, .int .i64 122, .int .i64 192, .int .i64 214, .int .i64 216, .int .i64 246, .int .i64 248, .int .i64 767, .int .i64 880, .int .i64 893, .int .i64 895, .int .i64 8191, .int .i64 8204, .int .i64 8205, .int .i64 8304, .int .i64 8591, .int .i64 11264, .int .i64 12271, .int .i64 12289, .int .i64 55295, .int .i64 63744, .int .i64 64975, .int .i64 65008, .int .i64 65533, .int .i64 65536, .int .i64 983039] 3)) fun e w' => e = .returned (.bool (inB startL n)) ∧ Below w.heap.size w w' :=
  ranges_new n startL w _ 3 30 30 rfl rfl (by decide)
theorem part_ranges (n : Int) (w : World) : Calls Try.prog 126 #[.int .i64 n, .slice (some ⟨w.heap.size, 0, none⟩) 10 10] (w.alloc (.cells #[.int .i64 45, .int .i64 46, .int .i64 48, .int .i64 57, .int .i64 183, .int .i64 183, .int .i64 768, .int .i64 879, .int .i64 8255, .int .i64 8256] 3)) fun e w' => e = .returned (.bool (inB partL n)) ∧ Below w.heap.size w w' :=
  ranges_new n partL w _ 3 10 10 rfl rfl (by decide)
set_option maxHeartbeats 1000000 in
theorem spec_start (n : Int) (w : World) : Calls Try.prog 122 #[.int .i64 n] w fun e w' => e = .returned (.bool (inB startL n)) ∧ Below w.heap.size w w' := by
  go_enter Try.func122, Try.ntmps122
  go_wp2_with (go_at_call 126; refine (start_ranges _ _).mono ?_; rintro e w' ⟨rfl, hb⟩)
  go_ret
  exact ⟨rfl, hb⟩
set_option maxHeartbeats 1000000 in
theorem spec_part (n : Int) (w : World) : Calls Try.prog 123 #[.int .i64 n] w fun e w' => e = .returned (.bool (inB partL n || inB startL n)) ∧ Below w.heap.size w w' := by
  cases hc : inB startL n
  · have HC : Hid (inB startL n = false) := hc
    go_enter Try.func123, Try.ntmps123
    go_wp2_with (first
      | (go_at_call 122; refine (spec_start _ _).mono ?_; rintro e w1 ⟨rfl, hb1⟩)
      | (go_at_call 126; refine (part_ranges _ _).mono ?_; rintro e w2 ⟨rfl, hb2⟩))
    go_ret
    exact ⟨ret_bool (by simp), hb1.trans (hb2.mono hb1.size)⟩
  · have HC : Hid (inB startL n = true) := hc
    go_enter Try.func123, Try.ntmps123
    go_wp2_with (first
      | (go_at_call 122; refine (spec_start _ _).mono ?_; rintro e w1 ⟨rfl, hb1⟩)
      | (go_at_call 126; refine (part_ranges _ _).mono ?_; rintro e w2 ⟨rfl, hb2⟩))
    go_ret
    exact ⟨ret_bool (by simp), hb1⟩

end Go.Proofs.Ytpejcblmglbjfaa.spans
