/-
  The library's strconv.ParseUint at the bases 10 and 16, 32 bits, at most seven bytes: the number that the digits make, or an error that is not nil.
-/
import Derived.Test.YtekbpekfomblbaaGreatDoorRefP
import Derived.Shelf.Pu.ToError
import Derived.Lib.AtoiErrMem
import Derived.Lib.ConvBytes
import Derived.Laws.Closers25b
import Derived.WalkKit
import Derived.BigCall
import Derived.BigGuard
import Derived.Below
namespace Go.Proofs.YtekbpekfomblbaaGreatDoor.parseu
open Go.RowKit Go.Shelf
open escs (byteAt)
open refs (numTo digOk digit)
set_option linter.unusedVariables false
/-! ### Plain -/
def low (x : Int) : Int := bits .or .u8 x 32
theorem low_all : ∀ n : Fin 256, (97 ≤ n.val ∧ n.val ≤ 102 → low (n.val : Int) = n.val) ∧ (65 ≤ n.val ∧ n.val ≤ 70 → low (n.val : Int) = n.val + 32) ∧ (97 ≤ low (n.val : Int) ∧ low (n.val : Int) ≤ 102 → (97 ≤ n.val ∧ n.val ≤ 102) ∨ (65 ≤ n.val ∧ n.val ≤ 70)) := by
  decide +kernel
theorem low_a {x : Int} (h1 : 97 ≤ x) (h2 : x ≤ 102) : low x = x := by
  have h := (low_all ⟨x.toNat, by omega⟩).1 ⟨by simp; omega, by simp; omega⟩
  simp at h
  rw [Int.max_eq_left (by omega)] at h
  exact h
theorem low_A {x : Int} (h1 : 65 ≤ x) (h2 : x ≤ 70) : low x = x + 32 := by
  have h := (low_all ⟨x.toNat, by omega⟩).2.1 ⟨by simp; omega, by simp; omega⟩
  simp at h
  rw [Int.max_eq_left (by omega)] at h
  exact h
theorem low_back {x : Int} (h0 : 0 ≤ x) (h1 : x ≤ 255) (ha : 97 ≤ low x) (hb : low x ≤ 102) : (97 ≤ x ∧ x ≤ 102) ∨ (65 ≤ x ∧ x ≤ 70) := by
  have h := (low_all ⟨x.toNat, by omega⟩).2.2
  simp at h
  rw [Int.max_eq_left (by omega)] at h
  have := h ha hb
  omega
theorem dig_num {base x : Int} (h1 : 48 ≤ x) (h2 : x ≤ 57) : digit x = x - 48 := by unfold digit; rw [if_pos ⟨h1, h2⟩]
theorem dig_a {base x : Int} (h1 : 97 ≤ x) (h2 : x ≤ 102) : digit x = x - 97 + 10 := by unfold digit; rw [if_neg (by omega), if_pos ⟨h1, h2⟩]
theorem dig_A {base x : Int} (h1 : 65 ≤ x) (h2 : x ≤ 70) : digit x = x - 65 + 10 := by unfold digit; rw [if_neg (by omega), if_neg (by omega), if_pos ⟨h1, h2⟩]
theorem dig_no {x : Int} (h1 : ¬ (48 ≤ x ∧ x ≤ 57)) (h2 : ¬ (97 ≤ x ∧ x ≤ 102)) (h3 : ¬ (65 ≤ x ∧ x ≤ 70)) : digit x = -1 := by unfold digit; rw [if_neg h1, if_neg h2, if_neg h3]
theorem low_95 : low 95 = 127 := by decide +kernel
theorem ne_95 {x : Int} (h1 : low x ≤ 122) : (x == 95) = false := by
  rw [beq_eq_false_iff_ne]
  rintro rfl
  rw [low_95] at h1
  omega
/-- A byte, as the library looks at it: a digit of ten; a letter of sixteen, by its lower case; or none. -/
theorem classes {base x : Int} (hb : base = 10 ∨ base = 16) (h0 : 0 ≤ x) (h1 : x ≤ 255) :
    (48 ≤ x ∧ x ≤ 57 ∧ digOk base x = true ∧ digit x = x - 48) ∨ (¬ (48 ≤ x ∧ x ≤ 57) ∧ 97 ≤ low x ∧ low x ≤ 102 ∧ base = 16 ∧ digOk base x = true ∧ digit x = low x - 97 + 10) ∨
    (¬ (48 ≤ x ∧ x ≤ 57) ∧ 97 ≤ low x ∧ low x ≤ 122 ∧ (base = 10 ∨ 103 ≤ low x) ∧ digOk base x = false) ∨ (¬ (48 ≤ x ∧ x ≤ 57) ∧ ¬ (97 ≤ low x ∧ low x ≤ 122) ∧ digOk base x = false) := by
  by_cases hn : 48 ≤ x ∧ x ≤ 57
  · refine .inl ⟨hn.1, hn.2, ?_, dig_num (base := base) hn.1 hn.2⟩
    unfold digOk
    rw [dig_num (base := base) hn.1 hn.2]
    exact decide_eq_true (by omega)
  by_cases hl : 97 ≤ low x ∧ low x ≤ 102
  · have hd : digit x = low x - 97 + 10 := by
      rcases low_back h0 h1 hl.1 hl.2 with h | h
      · rw [dig_a (base := base) h.1 h.2, low_a h.1 h.2]
      · rw [dig_A (base := base) h.1 h.2, low_A h.1 h.2]; omega
    rcases hb with rfl | rfl
    · refine .inr (.inr (.inl ⟨hn, hl.1, by omega, .inl rfl, ?_⟩))
      unfold digOk
      rw [hd]
      exact decide_eq_false (by omega)
    · refine .inr (.inl ⟨hn, hl.1, hl.2, rfl, ?_, hd⟩)
      unfold digOk
      rw [hd]
      exact decide_eq_true (by omega)
  · have hd : digOk base x = false := by
      have ha : ¬ (97 ≤ x ∧ x ≤ 102) := fun h => hl (by rw [low_a h.1 h.2]; exact h)
      have hA : ¬ (65 ≤ x ∧ x ≤ 70) := fun h => hl (by rw [low_A h.1 h.2]; omega)
      unfold digOk
      rw [dig_no hn ha hA]
      exact decide_eq_false (by omega)
    by_cases hz : 97 ≤ low x ∧ low x ≤ 122
    · exact .inr (.inr (.inl ⟨hn, hz.1, hz.2, .inr (by omega), hd⟩))
    · exact .inr (.inr (.inr ⟨hn, hz, hd⟩))
theorem num_range {s : ByteArray} {base : Int} (hb : base = 10 ∨ base = 16) : ∀ {k : Nat} {n : Int}, numTo s base k = some n → 0 ≤ n ∧ n < 16 ^ k
  | 0, n, h => by
    rw [numTo] at h
    obtain rfl := Option.some.inj h
    exact ⟨by omega, by decide⟩
  | k + 1, n, h => by
    rw [numTo] at h
    cases hk : numTo s base k with
    | none => rw [hk] at h; cases h
    | some m =>
      rw [hk] at h
      simp only at h
      split at h
      · rename_i hd
        obtain rfl := Option.some.inj h
        have := num_range hb hk
        have hd2 := of_decide_eq_true hd
        rw [Int.pow_succ]
        rcases hb with rfl | rfl <;> omega
      · cases h
theorem pow_small {k : Nat} (h : k ≤ 7) : (16 : Int) ^ k ≤ 268435456 := by
  have hk : k = 0 ∨ k = 1 ∨ k = 2 ∨ k = 3 ∨ k = 4 ∨ k = 5 ∨ k = 6 ∨ k = 7 := by omega
  rcases hk with rfl | rfl | rfl | rfl | rfl | rfl | rfl | rfl <;> decide
theorem num_small {s : ByteArray} {base n : Int} {k : Nat} (hb : base = 10 ∨ base = 16) (hk : k ≤ 7) (h : numTo s base k = some n) : 0 ≤ n ∧ n < 268435456 := by
  have := num_range hb h
  have := pow_small hk
  omega
theorem byte_list (s : ByteArray) (j : Nat) (h : j < s.size) : ((s.data.toList.getD j 0).toNat : Int) = byteAt s j := by
  unfold escs.byteAt
  rw [escs.get_of s j h]
  have h' : j < s.data.toList.length := by rw [Array.length_toList]; exact h
  rw [List.getD_eq_getElem?_getD, List.getElem?_eq_getElem h']
  rfl
def outP : Option Int → Value
  | some n => .tuple #[.int .u64 n, .nilIface]
  | none => .tuple #[.int .u64 0, .iface 129 (.int .i64 2)]
theorem ret_out {a : Value} {r : Option Int} (h : outP r = a) : Ending.returned a = .returned (outP r) := by rw [h]
/-! ### The library's own -/
theorem lower_any (x : Int) (w : World) : Calls Tryz.prog 114 #[.int .u8 x] w fun e w' => e = .returned (.int .u8 (low x)) ∧ w' = w := by
  go_enter Tryz.func114, Tryz.ntmps114
  go_wp2
  go_ret
  exact ⟨rfl, rfl⟩
set_option maxHeartbeats 8000000 in
set_option maxRecDepth 100000 in
theorem parse_in (t : ByteArray) (base : Int) (hb : base = 10 ∨ base = 16) (hne : t.size ≠ 0) (hsz : t.size ≤ 7) (r : Option Int) (hr : Hid (numTo t base t.size = r)) (w : World) :
    Calls Tryz.prog 112 #[.string t, .int .i64 base, .int .i64 32] w fun e w' => e = .returned (outP r) ∧ Below w.heap.size w w' := by
  have hemp : t.toList.isEmpty = false := by
    rw [← decide_eq_emptyBytes]
    exact decide_eq_false (fun h => hne (by rw [h]; rfl))
  have hcv := Lib.run_convert_string_bytes (P := Tryz.prog) w 9 22 5 t (u := .string) Tryz.underlying9 Tryz.underlying22 Tryz.underlying5
  have hB : Hid (∀ j, j < t.size → (Lib.bytesWorld w 5 t).cell? ⟨w.heap.size, j, none⟩ = some (.int .u8 (byteAt t j))) := fun j hj => by rw [Lib.bytesWorld_cell w 5 t j hj, byte_list t j hj]
  have hW : Hid (Below w.heap.size w (Lib.bytesWorld w 5 t)) := Lib.bytesWorld_below w 5 t
  obtain ⟨W1, hW1⟩ : ∃ W1, W1 = Lib.bytesWorld w 5 t := ⟨_, rfl⟩
  rw [← hW1] at hcv hB hW
  clear hW1
  have hmv : IntKind.u64.wrap (IntKind.u64.wrap 4294967296 - 1) = 4294967295 := by
    rw [IntKind.wrap_u64, IntKind.wrap_u64]
    decide
  have HC : Hid (∀ x : Int, 0 ≤ x → x ≤ 255 → _) := fun x h0 h1 => classes (x := x) hb h0 h1
  obtain ⟨F, eF⟩ : ∃ F : Nat → Option Int, F = numTo t base := ⟨_, rfl⟩
  have HN : Hid (∀ (k : Nat) (n : Int), k ≤ 7 → F k = some n → 0 ≤ n ∧ n < 268435456) := fun k n hk h => by rw [eF] at h; exact num_small (n := n) hb hk h
  have H0 : Hid (F 0 = some 0) := by show _ = _; rw [eF]; rfl
  have HG : Hid (∀ (k : Nat) (n d : Int), F k = some n → digOk base (byteAt t k) = true → digit (byteAt t k) = d → F (k + 1) = some (n * base + d)) := fun k n d h hd e => by rw [eF] at h ⊢; rw [← e]; exact refs.numTo_go h hd
  have HB : Hid (∀ (k : Nat) (n : Int), k < t.size → F k = some n → digOk base (byteAt t k) = false → outP r = outP none) := fun k n hk h hd => by rw [eF] at h; rw [← hr.out, refs.numTo_bad (refs.numTo_stop h hd) _ hk]
  have HE : Hid (∀ n : Int, F t.size = some n → outP r = outP (some n)) := fun n h => by rw [eF, hr.out] at h; rw [h]
  clear eF hr
  rcases hb with rfl | rfl
  all_goals
    go_enter Tryz.func112, Tryz.ntmps112
    go_wp2
    go_loop [12, 13, 101] (fun vu vn vi => ∃ (k : Nat) (n : Int), vu = .bool false ∧ vn = .int .u64 n ∧ vi = .int .i64 k ∧ k ≤ t.size ∧ Hid (F k = some n)) (fun _ _ vi => t.size - (intOf vi).toNat)
    case atStart => exact ⟨0, 0, rfl, rfl, rfl, by omega, H0⟩
    case round =>
      obtain ⟨k, n, rfl, rfl, rfl, hk, hnum⟩ := hrel
      obtain ⟨n0, n1⟩ := HN.out k n (by omega) hnum.out
      by_cases hkn : k < t.size
      · have hc := hB.out k hkn
        have hx := escs.byteAt_range t k
        have hcl := HC.out _ hx.1 hx.2
        have hgo := HG.out k n
        have hbad := HB.out k n hkn hnum.out
        obtain ⟨x, ex⟩ : ∃ x, x = byteAt t k := ⟨_, rfl⟩
        rw [← ex] at hc hx hcl hgo hbad
        obtain ⟨x0, x1⟩ := hx
        rcases hcl with ⟨c1, c2, c3, c4⟩ | ⟨c1, c2, c3, c5, c4, c6⟩ | ⟨c1, c2, c3, c5, c4⟩ | ⟨c1, c2, c4⟩
        · have HS : Hid _ := hgo (x - 48) hnum.out c3 c4
          have hb1 := HN.out (k + 1) _ (by omega) HS.out
          clear hgo hbad ex c3 c4
          go_wp2
          exact ⟨⟨k + 1, _, rfl, rfl, by go_num, by omega, HS⟩, by simp [intOf]; omega⟩
        · first
            | (exfalso; omega)
            | (have HS : Hid _ := hgo (low x - 97 + 10) hnum.out c4 c6
               have hb1 := HN.out (k + 1) _ (by omega) HS.out
               have h95 := @ne_95 x (by omega)
               obtain ⟨y, ey⟩ : ∃ y, y = low x := ⟨_, rfl⟩
               have HL : Hid (∀ w, _) := fun w => lower_any x w
               rw [← ey] at c2 c3 hb1 HS HL
               clear hgo hbad ex c4 c5 c6 ey
               go_wp2_with (go_at_call 114; refine (HL.out _).mono ?_; rintro e w' ⟨rfl, rfl⟩)
               all_goals exact ⟨⟨k + 1, _, rfl, rfl, by go_num, by omega, HS⟩, by simp [intOf]; omega⟩)
        · have HS : Hid _ := hbad c4
          have h95 := @ne_95 x (by omega)
          obtain ⟨y, ey⟩ : ∃ y, y = low x := ⟨_, rfl⟩
          have HL : Hid (∀ w, _) := fun w => lower_any x w
          rw [← ey] at c2 c3 c5 HL
          clear hgo hbad ex c4 ey
          go_wp2_with (go_at_call 114; refine (HL.out _).mono ?_; rintro e w' ⟨rfl, rfl⟩)
          all_goals go_ret2
          all_goals exact ⟨ret_out HS.out, hW.out⟩
        · have HS : Hid _ := hbad c4
          by_cases e95 : x = 95
          · subst e95
            have HL : Hid (∀ w, _) := fun w => lower_any 95 w
            rw [low_95] at HL
            clear hgo hbad ex c2 c4
            go_wp2_with (go_at_call 114; refine (HL.out _).mono ?_; rintro e w' ⟨rfl, rfl⟩)
            all_goals go_ret2
            all_goals exact ⟨ret_out HS.out, hW.out⟩
          · have h95 : (x == 95) = false := by rw [beq_eq_false_iff_ne]; exact e95
            obtain ⟨y, ey⟩ : ∃ y, y = low x := ⟨_, rfl⟩
            have HL : Hid (∀ w, _) := fun w => lower_any x w
            have hy := bits_lo_u8 .or x 32
            have hy2 := bits_hi_u8 .or x 32
            rw [show bits .or .u8 x 32 = y from ey.symm] at hy hy2
            rw [← ey] at c2 HL
            clear hgo hbad ex c4 ey e95
            go_wp2_with (go_at_call 114; refine (HL.out _).mono ?_; rintro e w' ⟨rfl, rfl⟩)
            all_goals go_ret2
            all_goals exact ⟨ret_out HS.out, hW.out⟩
      · obtain rfl : k = t.size := by omega
        have HS : Hid _ := HE.out n hnum.out
        go_wp2
        go_ret2
        exact ⟨ret_out HS.out, hW.out⟩
end Go.Proofs.YtekbpekfomblbaaGreatDoor.parseu
