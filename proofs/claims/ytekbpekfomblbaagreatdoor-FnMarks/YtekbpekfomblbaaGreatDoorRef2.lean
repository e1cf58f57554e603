/-
  What the specification's l3One and EntsOk answer.
-/
import Derived.Test.YtekbpekfomblbaaGreatDoorRef
import Derived.Deep.QuietTactic
import Derived.BigQuiet
namespace Go.Proofs.YtekbpekfomblbaaGreatDoor.refs
open Go.ChangeShapes Go.WideShapes Go.ChangeAt Go.RowKit
open escs (byteAt)
open pairs (Pair at0 PairsAt)
set_option linter.unusedVariables false
theorem idx0 (s : ByteArray) (h : 0 < s.size) (W : World) : (Instr.index 9 (.string s) (.int .i64 0)).run Tryz.prog W = .ok (.int .u8 (byteAt s 0)) W := escs.idx s 0 h W
theorem idx1 (s : ByteArray) (h : 1 < s.size) (W : World) : (Instr.index 9 (.string s) (.int .i64 1)).run Tryz.prog W = .ok (.int .u8 (byteAt s 1)) W := escs.idx s 1 h W
theorem numOf_x {s : ByteArray} (h : byteAt s 1 = 120) : numOf s = number (s.extract 2 s.size) 16 6 := by unfold numOf; rw [if_pos h]
theorem numOf_d {s : ByteArray} (h : ¬ byteAt s 1 = 120) : numOf s = number (s.extract 1 s.size) 10 7 := by unfold numOf; rw [if_neg h]
theorem spec_number16H (s : ByteArray) (n : Int) (hs : s.size ≤ maxLen) (h : number s 16 6 = n) (w : World) : Calls Tryz.prog 83 #[.string s, .int .i64 16, .int .i64 6] w fun e w' => e = .returned (.int .i64 n) ∧ w' = w := by
  have := spec_number16 s w hs
  rw [h] at this
  exact this
theorem spec_number10H (s : ByteArray) (n : Int) (hs : s.size ≤ maxLen) (h : number s 10 7 = n) (w : World) : Calls Tryz.prog 83 #[.string s, .int .i64 10, .int .i64 7] w fun e w' => e = .returned (.int .i64 n) ∧ w' = w := by
  have := spec_number10 s w hs
  rw [h] at this
  exact this
theorem one_pos {s : ByteArray} {L : List Pair} {n : Int} (h : 1 < s.size ∧ byteAt s 0 = 35) (hn : numOf s = n) (h0 : 0 ≤ n) : oneR s L = (texts.stx n, spans.inB spans.signL n) := by rw [one_num h, hn, decide_eq_true h0, Bool.true_and]
theorem one_neg {s : ByteArray} {L : List Pair} {n : Int} (h : 1 < s.size ∧ byteAt s 0 = 35) (hn : numOf s = n) (h0 : ¬ 0 ≤ n) : oneR s L = (texts.stx n, false) := by rw [one_num h, hn, decide_eq_false h0, Bool.false_and]
set_option maxRecDepth 100000 in
set_option maxHeartbeats 4000000 in
theorem spec_one_num (s : ByteArray) (a : Option Addr) (L : List Pair) (cap : Nat) (w : World) (hs : s.size ≤ maxLen) (h : 1 < s.size ∧ byteAt s 0 = 35) :
    Calls Tryz.prog 71 #[.string s, .slice a L.length cap] w fun e w' => e = .returned (sb (oneR s L)) ∧ Below w.heap.size w w' := by
  have hsz : ∀ k, (s.extract k s.size).size ≤ maxLen := fun k => by rw [ByteArray.size_extract]; omega
  have hx0 := idx0 s (by omega)
  have hx1 := idx1 s h.1
  rw [h.2] at hx0
  have hp := @one_pos s L
  have hm := @one_neg s L
  have h1 : (1 : Int) < s.size := by have := h.1; omega
  have h2 : (2 : Int) ≤ s.size := by omega
  have h2' : (1 : Int) ≤ s.size := by omega
  obtain ⟨n, hn⟩ : ∃ n, numOf s = n := ⟨_, rfl⟩
  have hp := @hp n h hn
  have hm := @hm n h hn
  have hr := escs.byteAt_range s 1
  unfold maxLen at hs
  by_cases h120 : byteAt s 1 = 120
  · have hN := spec_number16H _ n (hsz 2) (by rw [← numOf_x h120]; exact hn)
    rw [h120] at hx1
    have HN : Hid (∀ w, _) := hN
    clear hN h120 hn hr hsz h
    by_cases h0 : 0 ≤ n
    · have HF : Hid _ := hp h0
      have hI := fun w => spans.spec_sign n w
      generalize spans.inB spans.signL n = b at HF hI
      have HI : Hid (∀ w, _) := hI
      clear hI hp hm
      go_enter Tryz.func71, Tryz.ntmps71
      go_wp2_with (first
        | (go_at_call 83; refine (HN.out _).mono ?_; rintro e w1 ⟨rfl, hw1⟩; have hw2 := hw1.symm; clear hw1; subst hw2)
        | (go_at_call 84; refine (texts.spec_any _ _).mono ?_; rintro e w2 ⟨rfl, hb2⟩)
        | (go_at_call 72; refine (HI.out _).mono ?_; rintro e w3 ⟨rfl, hw1⟩; have hw2 := hw1.symm; clear hw1; subst hw2))
      go_ret2
      exact ⟨ret_sb HF.out, hb2⟩
    · have HF : Hid _ := hm h0
      clear hp hm
      go_enter Tryz.func71, Tryz.ntmps71
      go_wp2_with (first
        | (go_at_call 83; refine (HN.out _).mono ?_; rintro e w1 ⟨rfl, hw1⟩; have hw2 := hw1.symm; clear hw1; subst hw2)
        | (go_at_call 84; refine (texts.spec_any _ _).mono ?_; rintro e w2 ⟨rfl, hb2⟩))
      go_ret2
      exact ⟨ret_sb HF.out, hb2⟩
  · have hN := spec_number10H _ n (hsz 1) (by rw [← numOf_d h120]; exact hn)
    obtain ⟨x, ex⟩ : ∃ x, x = byteAt s 1 := ⟨_, rfl⟩
    rw [← ex] at hx1 hr h120
    have e120 : (x == 120) = false := by simpa using h120
    have HN : Hid (∀ w, _) := hN
    clear hN h120 hn hsz h ex
    by_cases h0 : 0 ≤ n
    · have HF : Hid _ := hp h0
      have hI := fun w => spans.spec_sign n w
      generalize spans.inB spans.signL n = b at HF hI
      have HI : Hid (∀ w, _) := hI
      clear hI hp hm
      go_enter Tryz.func71, Tryz.ntmps71
      go_wp2_with (first
        | (go_at_call 83; refine (HN.out _).mono ?_; rintro e w1 ⟨rfl, hw1⟩; have hw2 := hw1.symm; clear hw1; subst hw2)
        | (go_at_call 84; refine (texts.spec_any _ _).mono ?_; rintro e w2 ⟨rfl, hb2⟩)
        | (go_at_call 72; refine (HI.out _).mono ?_; rintro e w3 ⟨rfl, hw1⟩; have hw2 := hw1.symm; clear hw1; subst hw2))
      go_ret2
      exact ⟨ret_sb HF.out, hb2⟩
    · have HF : Hid _ := hm h0
      clear hp hm
      go_enter Tryz.func71, Tryz.ntmps71
      go_wp2_with (first
        | (go_at_call 83; refine (HN.out _).mono ?_; rintro e w1 ⟨rfl, hw1⟩; have hw2 := hw1.symm; clear hw1; subst hw2)
        | (go_at_call 84; refine (texts.spec_any _ _).mono ?_; rintro e w2 ⟨rfl, hb2⟩))
      go_ret2
      exact ⟨ret_sb HF.out, hb2⟩
set_option maxRecDepth 100000 in
set_option maxHeartbeats 4000000 in
theorem spec_one_known (s : ByteArray) (a : Option Addr) (L : List Pair) (cap : Nat) (w : World) (hs : s.size ≤ maxLen) (h : ¬ (1 < s.size ∧ byteAt s 0 = 35)) (h1 : (known s).toList.isEmpty = false) :
    Calls Tryz.prog 71 #[.string s, .slice a L.length cap] w fun e w' => e = .returned (sb (oneR s L)) ∧ w' = w := by
  have HF : Hid _ := one_known (L := L) h h1
  have hK := fun w => spec_known s w
  generalize known s = k at hK HF h1
  have HK : Hid (∀ w, _) := hK
  unfold maxLen at hs
  clear hK
  by_cases hl : 1 < s.size
  · have hx0 := idx0 s (by omega)
    have hr := escs.byteAt_range s 0
    have hne : ¬ byteAt s 0 = 35 := fun e => h ⟨hl, e⟩
    obtain ⟨x, ex⟩ : ∃ x, x = byteAt s 0 := ⟨_, rfl⟩
    rw [← ex] at hx0 hr hne
    have e35 : (x == 35) = false := by simpa using hne
    have hl' : (1 : Int) < s.size := by omega
    clear ex hne h hl
    go_enter Tryz.func71, Tryz.ntmps71
    go_wp2_with (go_at_call 41; refine (HK.out _).mono ?_; rintro e w1 ⟨rfl, hw1⟩; have hw2 := hw1.symm; clear hw1; subst hw2)
    go_ret2
    exact ⟨ret_sb HF.out, rfl⟩
  · have hl' : ¬ (1 : Int) < s.size := by omega
    clear h hl
    go_enter Tryz.func71, Tryz.ntmps71
    go_wp2_with (go_at_call 41; refine (HK.out _).mono ?_; rintro e w1 ⟨rfl, hw1⟩; have hw2 := hw1.symm; clear hw1; subst hw2)
    go_ret2
    exact ⟨ret_sb HF.out, rfl⟩
set_option maxRecDepth 100000 in
set_option maxHeartbeats 4000000 in
theorem spec_one_look (s : ByteArray) (a : Option Addr) (L : List Pair) (cap : Nat) (w : World) (hs : s.size ≤ maxLen) (hL : Hid (PairsAt w a L)) (h : ¬ (1 < s.size ∧ byteAt s 0 = 35)) (h1 : (known s).toList.isEmpty = true) :
    Calls Tryz.prog 71 #[.string s, .slice a L.length cap] w fun e w' => e = .returned (sb (oneR s L)) ∧ w' = w := by
  have HF : Hid _ := one_look (L := L) h h1
  have hK := fun w => spec_known s w
  generalize known s = k at hK h1
  have HK : Hid (∀ w, _) := hK
  have hlen := hL.out.short
  unfold maxLen at hs hlen
  clear hK
  by_cases hl : 1 < s.size
  · have hx0 := idx0 s (by omega)
    have hr := escs.byteAt_range s 0
    have hne : ¬ byteAt s 0 = 35 := fun e => h ⟨hl, e⟩
    obtain ⟨x, ex⟩ : ∃ x, x = byteAt s 0 := ⟨_, rfl⟩
    rw [← ex] at hx0 hr hne
    have e35 : (x == 35) = false := by simpa using hne
    have hl' : (1 : Int) < s.size := by omega
    clear ex hne h hl
    go_enter Tryz.func71, Tryz.ntmps71
    go_wp2_with (go_at_call 41; refine (HK.out _).mono ?_; rintro e w1 ⟨rfl, hw1⟩; have hw2 := hw1.symm; clear hw1; subst hw2)
    go_loop [7] (fun t => ∃ i : Nat, i ≤ L.length ∧ t = .int .i64 i ∧ Hid (∀ j, j < i → ((at0 L j).1.toList == s.toList) = false)) (fun t => L.length - (intOf t).toNat)
    case atStart => exact ⟨0, Nat.zero_le _, rfl, fun j hj => by omega⟩
    case round =>
      obtain ⟨i, hi, rfl, hno⟩ := hrel
      by_cases hlt : i < L.length
      · obtain ⟨b, off, ha, hblt, hc⟩ := hL.out.row (by omega)
        obtain ⟨hc1, hc2⟩ := hc i hlt
        have hyes := @look_some L s i hlt
        have hgo : ((at0 L i).1.toList == s.toList) = false → ∀ j, j < i + 1 → ((at0 L j).1.toList == s.toList) = false := fun h j hj => by
          by_cases e : j = i
          · rw [e]; exact h
          · exact hno.out j (by omega)
        subst ha
        generalize (at0 L i).1 = n at hc1 hyes hgo
        generalize (at0 L i).2 = v at hc2 hyes
        clear hc
        cases hq : (n.toList == s.toList)
        · have HGO : Hid _ := hgo hq
          clear hyes hgo
          go_wp2
          go_round
          case rel => exact ⟨i + 1, by omega, by go_num, HGO.out⟩
          case measure => simp [intOf]; omega
        · have HY : Hid (oneR s L = (v, true)) := by show _ = _; rw [HF.out]; exact hyes hq hno.out
          clear hyes hgo
          go_wp2
          go_ret2
          exact ⟨ret_sb HY.out, rfl⟩
      · have HY : Hid (oneR s L = (⟨#[]⟩, false)) := by show _ = _; rw [HF.out]; exact look_none fun j hj => hno.out j (by omega)
        go_wp2
        go_ret2
        exact ⟨ret_sb HY.out, rfl⟩
  · have hl' : ¬ (1 : Int) < s.size := by omega
    clear h hl
    go_enter Tryz.func71, Tryz.ntmps71
    go_wp2_with (go_at_call 41; refine (HK.out _).mono ?_; rintro e w1 ⟨rfl, hw1⟩; have hw2 := hw1.symm; clear hw1; subst hw2)
    go_loop [7] (fun t => ∃ i : Nat, i ≤ L.length ∧ t = .int .i64 i ∧ Hid (∀ j, j < i → ((at0 L j).1.toList == s.toList) = false)) (fun t => L.length - (intOf t).toNat)
    case atStart => exact ⟨0, Nat.zero_le _, rfl, fun j hj => by omega⟩
    case round =>
      obtain ⟨i, hi, rfl, hno⟩ := hrel
      by_cases hlt : i < L.length
      · obtain ⟨b, off, ha, hblt, hc⟩ := hL.out.row (by omega)
        obtain ⟨hc1, hc2⟩ := hc i hlt
        have hyes := @look_some L s i hlt
        have hgo : ((at0 L i).1.toList == s.toList) = false → ∀ j, j < i + 1 → ((at0 L j).1.toList == s.toList) = false := fun h j hj => by
          by_cases e : j = i
          · rw [e]; exact h
          · exact hno.out j (by omega)
        subst ha
        generalize (at0 L i).1 = n at hc1 hyes hgo
        generalize (at0 L i).2 = v at hc2 hyes
        clear hc
        cases hq : (n.toList == s.toList)
        · have HGO : Hid _ := hgo hq
          clear hyes hgo
          go_wp2
          go_round
          case rel => exact ⟨i + 1, by omega, by go_num, HGO.out⟩
          case measure => simp [intOf]; omega
        · have HY : Hid (oneR s L = (v, true)) := by show _ = _; rw [HF.out]; exact hyes hq hno.out
          clear hyes hgo
          go_wp2
          go_ret2
          exact ⟨ret_sb HY.out, rfl⟩
      · have HY : Hid (oneR s L = (⟨#[]⟩, false)) := by show _ = _; rw [HF.out]; exact look_none fun j hj => hno.out j (by omega)
        go_wp2
        go_ret2
        exact ⟨ret_sb HY.out, rfl⟩
theorem spec_one (s : ByteArray) (a : Option Addr) (L : List Pair) (cap : Nat) (w : World) (hs : s.size ≤ maxLen) (hL : PairsAt w a L) :
    Calls Tryz.prog 71 #[.string s, .slice a L.length cap] w fun e w' => e = .returned (sb (oneR s L)) ∧ Below w.heap.size w w' := by
  by_cases h : 1 < s.size ∧ byteAt s 0 = 35
  · exact spec_one_num s a L cap w hs h
  · cases h1 : (known s).toList.isEmpty
    · exact (spec_one_known s a L cap w hs h h1).mono fun _ _ ⟨he, hw⟩ => ⟨he, by rw [hw]; exact Below.refl _ _⟩
    · exact (spec_one_look s a L cap w hs hL h h1).mono fun _ _ ⟨he, hw⟩ => ⟨he, by rw [hw]; exact Below.refl _ _⟩
end Go.Proofs.YtekbpekfomblbaaGreatDoor.refs
