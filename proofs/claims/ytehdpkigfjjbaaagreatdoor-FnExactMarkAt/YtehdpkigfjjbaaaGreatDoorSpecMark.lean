/-
  What the specification's l6Mark and MarkAt answer.
-/
import Derived.Test.YtehdpkigfjjbaaaGreatDoorSpecOpen
import Derived.Test.YtehdpkigfjjbaaaGreatDoorCutsQ
import Derived.Test.YtehdpkigfjjbaaaGreatDoorRef3
import Derived.Test.YtehdpkigfjjbaaaGreatDoorScanS
namespace Go.Proofs.YtehdpkigfjjbaaaGreatDoor.cuts
open Go.ChangeShapes Go.WideShapes Go.ChangeAt Go.RowKit
open names (splitT nameE)
open marks (blanksE)
open pairs (Pair at0 PairsAt)
open trees (Rng Out Bset)
set_option linter.unusedVariables false
theorem tillE_at {s : ByteArray} {a k : Nat} (hk : a ≤ k) (hs : k ≤ s.size) (h : ∀ i, a ≤ i → i < k → isAt s ⟨#[60]⟩ i = false) (he : k < s.size → isAt s ⟨#[60]⟩ k = true) : tillE s a = k := by
  unfold tillE
  cases hj : toI s ⟨#[60]⟩ a with
  | none =>
    by_cases e : k < s.size
    · have := toI_none hj k hk
      rw [he e] at this; cases this
    · show s.size = k; omega
  | some j =>
    obtain ⟨h1, h2, h3⟩ := toI_some hj
    have hjl : j + 1 ≤ s.size := isAt_le h2
    show j = k
    by_cases e : j < k
    · rw [h j h1 e] at h2; cases h2
    · by_cases e2 : k < j
      · have := h3 k hk e2
        rw [he (by omega)] at this; cases this
      · omega
theorem up_none {s t : ByteArray} {a : Nat} {k : Int} (h : toI s t a = none) : upE s t a k = none := by unfold upE; rw [h]
theorem up_some {s t : ByteArray} {a j : Nat} {k : Int} (h : toI s t a = some j) : upE s t a k = some (⟨k, ⟨#[]⟩, [], false, s.extract a j⟩, j + t.size) := by unfold upE; rw [h]
theorem tld_none {s : ByteArray} {a : Nat} (h : toldE s a = none) : tldE s a = none := by unfold tldE; rw [h]
theorem tld_some {s n x : ByteArray} {a j : Nat} (h : toldE s a = some (n, x, j)) : tldE s a = some (⟨5, n, [], false, x⟩, j) := by unfold tldE; rw [h]
theorem below0 {w : World} {u : Value} {t : TypeId} : Below w.heap.size w (w.alloc (.cells #[u] t)) := (Below.refl _ _).alloc (Nat.le_refl _) _
/-- The five cells of an answer's box, in any world behind. -/
theorem mk_of {r : Option (MarkV × Nat)} {w W : World} {e : Ending} {u0 u1 u2 u3 u4 : Value} (h : mkOk r w W e) (hr : ∀ m j, r = some (m, j) → m.raws = []) : mkOk r w (((((W.setCell ⟨w.heap.size, 0, none⟩ u0).setCell ⟨w.heap.size, 1, none⟩ u1).setCell ⟨w.heap.size, 2, none⟩ u2).setCell ⟨w.heap.size, 3, none⟩ u3).setCell ⟨w.heap.size, 4, none⟩ u4) e := by
  cases r with
  | none => exact h
  | some y =>
    obtain ⟨m, j⟩ := y
    obtain ⟨ad, c, he, _⟩ := h
    exact ⟨ad, c, he, fun h0 => by rw [hr m j rfl] at h0; exact absurd h0 (Nat.lt_irrefl _)⟩
theorem own_up {w W0 W1 W5 : World} {ad : Option Addr} {R : List Pair} (h : trees.OwnP W1 ad R (Rng W0 W1)) (hlt : w.heap.size < W0.heap.size) (ho : Out (fun b => b = w.heap.size) W1 W5) : trees.OwnP W5 ad R (Rng w W5) :=
  (h.out ho (fun b hb hc => by have := hb.1; have hc' : b = w.heap.size := hc; omega)).sub (fun b hb => ⟨by have := hb.1; omega, Nat.lt_of_lt_of_le hb.2 ho.size⟩)
theorem mk_open {r : Option (MarkV × Nat)} {w W0 W1 W5 : World} {e : Ending} (h : mkOk r W0 W1 e) (hlt : w.heap.size < W0.heap.size) (ho : Out (fun b => b = w.heap.size) W1 W5) : mkOk r w W5 e := by
  cases r with
  | none => exact h
  | some y =>
    obtain ⟨m, j⟩ := y
    obtain ⟨ad, c, he, hown⟩ := h
    exact ⟨ad, c, he, own_up hown hlt ho⟩
/-- What came is a mark's five values and a place. -/
theorem mk_shape {r : Option (MarkV × Nat)} {w W : World} {e : Ending} (h : mkOk r w W e) : ∃ k n a l c b x j, e = .returned (.tuple #[.agg #[.int .i64 k, .string n, .slice a l c, .bool b, .string x], .int .i64 j]) := by
  cases r with
  | none => obtain ⟨k, n, a, l, c, b, x, he⟩ := h; exact ⟨_, _, _, _, _, _, _, _, he⟩
  | some y =>
    obtain ⟨m, j⟩ := y
    obtain ⟨ad, c, he, _⟩ := h
    exact ⟨_, _, _, _, _, _, _, _, he⟩
theorem told_mk {s : ByteArray} {a : Nat} {e : Ending} (h : toldOk (toldE s a) e) (w W : World) : mkOk (tldE s a) w W e := by
  cases ht : toldE s a with
  | none =>
    rw [ht] at h
    rw [tld_none ht]
    obtain ⟨k, n, x, b, he⟩ := h
    exact ⟨_, _, _, _, _, _, _, he⟩
  | some y =>
    obtain ⟨n, x, j⟩ := y
    rw [ht] at h
    exact mk_plain (tld_some ht) h
set_option maxRecDepth 100000 in
set_option maxHeartbeats 8000000 in
theorem spec_mark (s : ByteArray) (a : Nat) (L : List Pair) (ad : Option Addr) (cap : Nat) (w : World) (hs : s.size ≤ 1048576) (ha : a < s.size) (hL : PairsAt w ad L) (hv : ∀ i, i < L.length → (at0 L i).2.size ≤ 1048576) : Calls Tryz.prog 15 #[.string s, .int .i64 a, .slice ad L.length cap] w fun e w' => mkOk (markE s a L) w w' e ∧ Below w.heap.size w w' := by
  have HL : Hid (PairsAt w ad L) := hL
  have HV : Hid _ := hv
  have HSZ : Hid (s.size ≤ 1048576) := hs
  obtain ⟨M, hM⟩ : ∃ M, markE s a L = M := ⟨_, rfl⟩
  rw [hM]
  have HE : Hid (markE s a L = M) := hM
  clear hM hL hv
  unfold markE at HE
  have h1 := fun W => spec_is s ⟨#[60, 33, 45, 45]⟩ a W hs (by decide) (by omega)
  have h2 := fun W => spec_is s ⟨#[60, 63]⟩ a W hs (by decide) (by omega)
  have h3 := fun W => spec_is s ⟨#[60, 47]⟩ a W hs (by decide) (by omega)
  have h4 := fun W => spec_is s ⟨#[60, 33, 91, 67, 68, 65, 84, 65, 91]⟩ a W hs (by decide) (by omega)
  have h5 := fun W => spec_is s ⟨#[60]⟩ a W hs (by decide) (by omega)
  have HAL : Hid (∀ o, Below w.heap.size w (w.alloc o)) := fun o => (Below.refl _ _).alloc (Nat.le_refl _) o
  cases b1 : isAt s ⟨#[60, 33, 45, 45]⟩ a
  · rw [b1] at h1 HE
    rw [if_neg (by decide)] at HE
    have H1 : Hid (∀ W, _) := h1
    cases b2 : isAt s ⟨#[60, 63]⟩ a
    · rw [b2] at h2 HE
      rw [if_neg (by decide)] at HE
      have H2 : Hid (∀ W, _) := h2
      cases b3 : isAt s ⟨#[60, 47]⟩ a
      · rw [b3] at h3 HE
        rw [if_neg (by decide)] at HE
        have H3 : Hid (∀ W, _) := h3
        cases b4 : isAt s ⟨#[60, 33, 91, 67, 68, 65, 84, 65, 91]⟩ a
        · rw [b4] at h4 HE
          rw [if_neg (by decide)] at HE
          have H4 : Hid (∀ W, _) := h4
          cases b5 : isAt s ⟨#[60]⟩ a
          · -- what stands between
            rw [b5] at h5 HE
            rw [if_neg (by decide)] at HE
            have H5 : Hid (∀ W, _) := h5
            clear h1 h2 h3 h4 h5 b1 b2 b3 b4 b5
            unfold betweenE at HE
            go_enter Tryz.func15, Tryz.ntmps15
            go_wp2_with (first
              | (go_at_call 29; (first | (refine Calls.mono (H1.out _) ?_; clear H1) | (refine Calls.mono (H2.out _) ?_; clear H2) | (refine Calls.mono (H3.out _) ?_; clear H3) | (refine Calls.mono (H4.out _) ?_; clear H4) | (refine Calls.mono (H5.out _) ?_; clear H5)); rintro e w2 ⟨rfl, hw2⟩; have hw3 := hw2.symm; clear hw2; subst hw3))
            obtain ⟨W0, hW0⟩ : ∃ W0, w.alloc (.cells #[.int .i64 0, .string ⟨#[]⟩, .slice none 0 0, .bool false, .string ⟨#[]⟩] 26) = W0 := ⟨_, rfl⟩
            have HB0 : Hid (Below w.heap.size w W0) := hW0 ▸ HAL.out _
            have HX0 : Hid (W0.heap[w.heap.size]? = some (.cells #[.int .i64 0, .string ⟨#[]⟩, .slice none 0 0, .bool false, .string ⟨#[]⟩] 26 (0, 0))) := hW0 ▸ heap_alloc_new w _
            rw [hW0]
            clear hW0
            go_loop [14] (fun t => ∃ k : Nat, a ≤ k ∧ k ≤ s.size ∧ t = .int .i64 k ∧ Hid (∀ i, a ≤ i → i < k → isAt s ⟨#[60]⟩ i = false)) (fun t => s.size - (intOf t).toNat)
            case atStart => exact ⟨a, Nat.le_refl _, Nat.le_of_lt ha, rfl, fun i h1 h2 => by omega⟩
            case round =>
              obtain ⟨k, hak, hk, rfl, hno⟩ := hrel
              have HDONE : Hid ((k < s.size → isAt s ⟨#[60]⟩ k = true) → tillE s a = k) := fun h => tillE_at hak hk hno.out h
              by_cases hlt : k < s.size
              · have hx := signs.idx s k hlt
                have hb := (s.get! k).toNat_lt
                have hat := isAt_byte s 60 k hlt
                obtain ⟨x, ex⟩ : ∃ x, x = ((s.get! k).toNat : Int) := ⟨_, rfl⟩
                have hx0 : 0 ≤ x := by omega
                have hx1 : x < 256 := by omega
                rw [← ex] at hx hat
                have HAT : Hid _ := hat
                clear ex hb hat
                by_cases h60 : x = 60
                · have hne : (x != 60) = false := by simp [h60]
                  have HT : Hid (tillE s a = k) := HDONE.out (fun _ => by rw [HAT.out]; exact decide_eq_true h60)
                  clear HAT h60
                  have hcut := escs.cut s a k hak hk
                  obtain ⟨y, hy⟩ : ∃ y, s.extract a k = y := ⟨_, rfl⟩
                  obtain ⟨x', ok, hxo⟩ : ∃ x ok, refs.expandR y L = (x, ok) := ⟨_, _, rfl⟩
                  rw [HT.out, hy, hxo] at HE
                  rw [hy] at hcut
                  have HYZ : Hid (y.size ≤ 1048576) := by show _ ≤ _; rw [← hy, ByteArray.size_extract]; omega
                  have H6 : Hid (∀ W, PairsAt W ad L → _) := fun W hL => expandH y x' ok L (by have := HYZ.out; unfold maxLen; omega) HV.out hxo ad cap W hL
                  have H7 : Hid (∀ W, _) := fun W => trees.spec_l5has y ⟨#[93, 93, 62]⟩ W HYZ.out (by decide)
                  obtain ⟨hh, hhh⟩ : ∃ h, trees.hasB y ⟨#[93, 93, 62]⟩ = h := ⟨_, rfl⟩
                  rw [hhh] at H7 HE
                  clear hhh hxo hy HDONE
                  go_wp2_with fail
                  refine Calls.mono (H6.out _ (HL.out.below (Nat.le_refl _) HB0.out)) ?_
                  rintro e w1 ⟨rfl, hb⟩
                  have HB1 : Hid (Below w.heap.size w w1) := HB0.out.trans (hb.mono HB0.out.size)
                  obtain ⟨⟨o0, o1, o2, o3, o4⟩, q0, q1, q2, q3, q4⟩ := box5 ((hb.block _ (lt_heap HX0.out)).trans HX0.out)
                  clear hb
                  cases ok
                  · rw [if_neg (fun h => absurd h.2 (by decide))] at HE
                    go_wp2
                    refine bodyPost_ret (by simp [results, Tryz.results15, go_sem, o0, o1, o2, o3, o4]; try rfl) rfl ?_
                    exact ⟨mk_bad HE.out.symm ⟨_, _, _, _, _, _, _, rfl⟩, below5 HB1.out⟩
                  · cases hh
                    · rw [if_pos ⟨rfl, rfl⟩] at HE
                      go_wp2_with (go_at_call 36; refine Calls.mono (H7.out _) ?_; rintro e w2 ⟨rfl, hw2⟩; have hw3 := hw2.symm; clear hw2; subst hw3)
                      refine bodyPost_ret (by simp [results, Tryz.results15, go_sem, o0, o1, o2, o3, o4]; try rfl) rfl ?_
                      exact ⟨mk_plain HE.out.symm rfl, below5 HB1.out⟩
                    · rw [if_neg (fun h => absurd h.1 (by decide))] at HE
                      go_wp2_with (go_at_call 36; refine Calls.mono (H7.out _) ?_; rintro e w2 ⟨rfl, hw2⟩; have hw3 := hw2.symm; clear hw2; subst hw3)
                      refine bodyPost_ret (by simp [results, Tryz.results15, go_sem, o0, o1, o2, o3, o4]; try rfl) rfl ?_
                      exact ⟨mk_bad HE.out.symm ⟨_, _, _, _, _, _, _, rfl⟩, below5 HB1.out⟩
                · have hne : (x != 60) = true := by simp [h60]
                  have HNO : Hid (isAt s ⟨#[60]⟩ k = false) := HAT.out.trans (decide_eq_false h60)
                  clear HDONE HAT h60
                  go_wp2
                  go_round
                  case rel => exact ⟨k + 1, by omega, by omega, by go_num, fun i h1 h2 => by
                    by_cases e : i = k
                    · rw [e]; exact HNO.out
                    · exact hno.out i h1 (by omega)⟩
                  case measure => simp [intOf]; omega
              · have HT : Hid (tillE s a = k) := HDONE.out (fun h => absurd h hlt)
                have hcut := escs.cut s a k hak hk
                obtain ⟨y, hy⟩ : ∃ y, s.extract a k = y := ⟨_, rfl⟩
                obtain ⟨x', ok, hxo⟩ : ∃ x ok, refs.expandR y L = (x, ok) := ⟨_, _, rfl⟩
                rw [HT.out, hy, hxo] at HE
                rw [hy] at hcut
                have HYZ : Hid (y.size ≤ 1048576) := by show _ ≤ _; rw [← hy, ByteArray.size_extract]; omega
                have H6 : Hid (∀ W, PairsAt W ad L → _) := fun W hL => expandH y x' ok L (by have := HYZ.out; unfold maxLen; omega) HV.out hxo ad cap W hL
                have H7 : Hid (∀ W, _) := fun W => trees.spec_l5has y ⟨#[93, 93, 62]⟩ W HYZ.out (by decide)
                obtain ⟨hh, hhh⟩ : ∃ h, trees.hasB y ⟨#[93, 93, 62]⟩ = h := ⟨_, rfl⟩
                rw [hhh] at H7 HE
                clear hhh hxo hy HDONE
                go_wp2_with fail
                refine Calls.mono (H6.out _ (HL.out.below (Nat.le_refl _) HB0.out)) ?_
                rintro e w1 ⟨rfl, hb⟩
                have HB1 : Hid (Below w.heap.size w w1) := HB0.out.trans (hb.mono HB0.out.size)
                obtain ⟨⟨o0, o1, o2, o3, o4⟩, q0, q1, q2, q3, q4⟩ := box5 ((hb.block _ (lt_heap HX0.out)).trans HX0.out)
                clear hb
                cases ok
                · rw [if_neg (fun h => absurd h.2 (by decide))] at HE
                  go_wp2
                  refine bodyPost_ret (by simp [results, Tryz.results15, go_sem, o0, o1, o2, o3, o4]; try rfl) rfl ?_
                  exact ⟨mk_bad HE.out.symm ⟨_, _, _, _, _, _, _, rfl⟩, below5 HB1.out⟩
                · cases hh
                  · rw [if_pos ⟨rfl, rfl⟩] at HE
                    go_wp2_with (go_at_call 36; refine Calls.mono (H7.out _) ?_; rintro e w2 ⟨rfl, hw2⟩; have hw3 := hw2.symm; clear hw2; subst hw3)
                    refine bodyPost_ret (by simp [results, Tryz.results15, go_sem, o0, o1, o2, o3, o4]; try rfl) rfl ?_
                    exact ⟨mk_plain HE.out.symm rfl, below5 HB1.out⟩
                  · rw [if_neg (fun h => absurd h.1 (by decide))] at HE
                    go_wp2_with (go_at_call 36; refine Calls.mono (H7.out _) ?_; rintro e w2 ⟨rfl, hw2⟩; have hw3 := hw2.symm; clear hw2; subst hw3)
                    refine bodyPost_ret (by simp [results, Tryz.results15, go_sem, o0, o1, o2, o3, o4]; try rfl) rfl ?_
                    exact ⟨mk_bad HE.out.symm ⟨_, _, _, _, _, _, _, rfl⟩, below5 HB1.out⟩
          · rw [b5] at h5 HE
            rw [if_pos rfl] at HE
            have H5 : Hid (∀ W, _) := h5
            clear h1 h2 h3 h4 h5 b1 b2 b3 b4 b5
            have H6 : Hid _ := spec_open s a L ad cap (w.alloc (.cells #[.int .i64 0, .string ⟨#[]⟩, .slice none 0 0, .bool false, .string ⟨#[]⟩] 26)) hs (by omega) (HL.out.below (Nat.le_refl _) (HAL.out _)) HV.out
            rw [HE.out] at H6
            go_enter Tryz.func15, Tryz.ntmps15
            go_wp2_with (first
              | (go_at_call 29; (first | (refine Calls.mono (H1.out _) ?_; clear H1) | (refine Calls.mono (H2.out _) ?_; clear H2) | (refine Calls.mono (H3.out _) ?_; clear H3) | (refine Calls.mono (H4.out _) ?_; clear H4) | (refine Calls.mono (H5.out _) ?_; clear H5)); rintro e w2 ⟨rfl, hw2⟩; have hw3 := hw2.symm; clear hw2; subst hw3)
              | fail)
            refine Calls.mono H6.out ?_
            rintro e w1 ⟨he, hb⟩
            obtain ⟨mk, mn, ma, ml, mc, mb, mx, mj, rfl⟩ := mk_shape he
            have HMK : Hid _ := he
            have HB1 : Hid (Below w.heap.size w w1) := box_under hb
            obtain ⟨⟨o0, o1, o2, o3, o4⟩, q0, q1, q2, q3, q4⟩ := box5 (box_kept hb)
            clear he hb
            go_wp2
            refine bodyPost_ret (by simp [results, Tryz.results15, go_sem, o0, o1, o2, o3, o4]; try rfl) rfl ?_
            exact ⟨mk_open HMK.out (by simp) (out5 w w1 _ _ _ _ _), below5 HB1.out⟩
        · have HLE : Hid (a + 9 ≤ s.size) := by have := isAt_le b4; exact this
          rw [b4] at h4 HE
          rw [if_pos rfl] at HE
          have H4 : Hid (∀ W, _) := h4
          clear h1 h2 h3 h4 h5 b1 b2 b3 b4
          have h6 : ∀ W, Calls Tryz.prog 30 #[.string s, .int .i64 ((a : Int) + 9), .string ⟨#[93, 93, 62]⟩] W fun e w' => e = .returned (.tuple #[.string (toR s ⟨#[93, 93, 62]⟩ (a + 9)).1, .int .i64 (toR s ⟨#[93, 93, 62]⟩ (a + 9)).2]) ∧ w' = W := fun W => spec_to s ⟨#[93, 93, 62]⟩ (a + 9) W hs (by decide) HLE.out
          cases hj : toI s ⟨#[93, 93, 62]⟩ (a + 9) with
          | none =>
            rw [toR_none hj] at h6
            rw [up_none hj] at HE
            have H6 : Hid (∀ W, _) := h6
            clear hj h6
            go_enter Tryz.func15, Tryz.ntmps15
            go_wp2_with (first
              | (go_at_call 29; (first | (refine Calls.mono (H1.out _) ?_; clear H1) | (refine Calls.mono (H2.out _) ?_; clear H2) | (refine Calls.mono (H3.out _) ?_; clear H3) | (refine Calls.mono (H4.out _) ?_; clear H4)); rintro e w2 ⟨rfl, hw2⟩; have hw3 := hw2.symm; clear hw2; subst hw3)
              | (go_at_call 30; refine Calls.mono (H6.out _) ?_; rintro e w2 ⟨rfl, hw2⟩; have hw3 := hw2.symm; clear hw2; subst hw3))
            refine bodyPost_ret (by simp [results, Tryz.results15, go_sem]; try rfl) rfl ?_
            exact ⟨mk_bad HE.out.symm ⟨_, _, _, _, _, _, _, rfl⟩, HAL.out _⟩
          | some j =>
            rw [toR_some hj] at h6
            rw [up_some hj] at HE
            have H6 : Hid (∀ W, _) := h6
            clear hj h6
            go_enter Tryz.func15, Tryz.ntmps15
            go_wp2_with (first
              | (go_at_call 29; (first | (refine Calls.mono (H1.out _) ?_; clear H1) | (refine Calls.mono (H2.out _) ?_; clear H2) | (refine Calls.mono (H3.out _) ?_; clear H3) | (refine Calls.mono (H4.out _) ?_; clear H4)); rintro e w2 ⟨rfl, hw2⟩; have hw3 := hw2.symm; clear hw2; subst hw3)
              | (go_at_call 30; refine Calls.mono (H6.out _) ?_; rintro e w2 ⟨rfl, hw2⟩; have hw3 := hw2.symm; clear hw2; subst hw3))
            refine bodyPost_ret (by simp [results, Tryz.results15, go_sem]; try rfl) rfl ?_
            exact ⟨mk_plain HE.out.symm rfl, HAL.out _⟩
      · have hle2 : a + 2 ≤ s.size := by have := isAt_le b3; exact this
        rw [b3] at h3 HE
        rw [if_pos rfl] at HE
        have H3 : Hid (∀ W, _) := h3
        clear h1 h2 h3 h4 h5 b1 b2 b3
        have h6 : ∀ W, Calls Tryz.prog 32 #[.string s, .int .i64 ((a : Int) + 2)] W fun e w' => e = .returned (.tuple #[.string (nameR s (a + 2)).1, .int .i64 (nameR s (a + 2)).2]) ∧ Below W.heap.size W w' := fun W => spec_name s (a + 2) W hs hle2
        have hkl : nameE s (a + 2) ≤ s.size := ends_le s _ _ hle2
        unfold closeE at HE
        by_cases hok : (splitT (s.extract (a + 2) (nameE s (a + 2)))).2.2 = true
        · rw [nameR_yes hok] at h6
          rw [if_pos hok] at HE
          obtain ⟨n, hn⟩ : ∃ n, s.extract (a + 2) (nameE s (a + 2)) = n := ⟨_, rfl⟩
          obtain ⟨k, hk⟩ : ∃ k, nameE s (a + 2) = k := ⟨_, rfl⟩
          rw [hn, hk] at h6 HE
          rw [hk] at hkl
          have H6 : Hid (∀ W, _) := h6
          have H7 : Hid (∀ W, _) := fun W => marks.spec_blanks_in s k W (by unfold maxLen; omega) hkl
          have hfl : blanksE s k ≤ s.size := marks.blE_le s _ _ hkl
          obtain ⟨f, hf⟩ : ∃ f, blanksE s k = f := ⟨_, rfl⟩
          rw [hf] at H7 HE hfl
          have H8 : Hid (∀ W, _) := fun W => spec_is s ⟨#[62]⟩ f W hs (by decide) hfl
          clear hf hn hk hok h6
          cases hq : isAt s ⟨#[62]⟩ f
          · rw [hq] at H8 HE
            rw [if_neg (by decide)] at HE
            clear hq
            go_enter Tryz.func15, Tryz.ntmps15
            go_wp2_with (first
              | (go_at_call 29; (first | (refine Calls.mono (H1.out _) ?_; clear H1) | (refine Calls.mono (H2.out _) ?_; clear H2) | (refine Calls.mono (H3.out _) ?_; clear H3)); rintro e w2 ⟨rfl, hw2⟩; have hw3 := hw2.symm; clear hw2; subst hw3)
              | fail)
            refine Calls.mono (H6.out _) ?_
            rintro e w1 ⟨rfl, hb⟩
            have HB1 : Hid (Below w.heap.size w w1) := box_under hb
            obtain ⟨⟨o0, o1, o2, o3, o4⟩, q0, q1, q2, q3, q4⟩ := box5 (box_kept hb)
            clear hb
            go_wp2_with (first
              | (go_at_call 33; refine Calls.mono (H7.out _) ?_; rintro e w2 ⟨rfl, hw2⟩; have hw3 := hw2.symm; clear hw2; subst hw3)
              | (go_at_call 29; refine Calls.mono (H8.out _) ?_; rintro e w2 ⟨rfl, hw2⟩; have hw3 := hw2.symm; clear hw2; subst hw3))
            refine bodyPost_ret (by simp [results, Tryz.results15, go_sem, o0, o1, o2, o3, o4]; try rfl) rfl ?_
            exact ⟨mk_bad HE.out.symm ⟨_, _, _, _, _, _, _, rfl⟩, below5 HB1.out⟩
          · rw [hq] at H8 HE
            rw [if_pos rfl] at HE
            clear hq
            go_enter Tryz.func15, Tryz.ntmps15
            go_wp2_with (first
              | (go_at_call 29; (first | (refine Calls.mono (H1.out _) ?_; clear H1) | (refine Calls.mono (H2.out _) ?_; clear H2) | (refine Calls.mono (H3.out _) ?_; clear H3)); rintro e w2 ⟨rfl, hw2⟩; have hw3 := hw2.symm; clear hw2; subst hw3)
              | fail)
            refine Calls.mono (H6.out _) ?_
            rintro e w1 ⟨rfl, hb⟩
            have HB1 : Hid (Below w.heap.size w w1) := box_under hb
            obtain ⟨⟨o0, o1, o2, o3, o4⟩, q0, q1, q2, q3, q4⟩ := box5 (box_kept hb)
            clear hb
            go_wp2_with (first
              | (go_at_call 33; refine Calls.mono (H7.out _) ?_; rintro e w2 ⟨rfl, hw2⟩; have hw3 := hw2.symm; clear hw2; subst hw3)
              | (go_at_call 29; refine Calls.mono (H8.out _) ?_; rintro e w2 ⟨rfl, hw2⟩; have hw3 := hw2.symm; clear hw2; subst hw3))
            refine bodyPost_ret (by simp [results, Tryz.results15, go_sem, o0, o1, o2, o3, o4]; try rfl) rfl ?_
            exact ⟨mk_plain HE.out.symm rfl, below5 HB1.out⟩
        · rw [nameR_no hok] at h6
          rw [if_neg hok] at HE
          have H6 : Hid (∀ W, _) := h6
          clear hok h6
          go_enter Tryz.func15, Tryz.ntmps15
          go_wp2_with (first
            | (go_at_call 29; (first | (refine Calls.mono (H1.out _) ?_; clear H1) | (refine Calls.mono (H2.out _) ?_; clear H2) | (refine Calls.mono (H3.out _) ?_; clear H3)); rintro e w2 ⟨rfl, hw2⟩; have hw3 := hw2.symm; clear hw2; subst hw3)
            | fail)
          refine Calls.mono (H6.out _) ?_
          rintro e w1 ⟨rfl, hb⟩
          have HB1 : Hid (Below w.heap.size w w1) := box_under hb
          obtain ⟨⟨o0, o1, o2, o3, o4⟩, q0, q1, q2, q3, q4⟩ := box5 (box_kept hb)
          clear hb
          go_wp2
          refine bodyPost_ret (by simp [results, Tryz.results15, go_sem, o0, o1, o2, o3, o4]; try rfl) rfl ?_
          exact ⟨mk_bad HE.out.symm ⟨_, _, _, _, _, _, _, rfl⟩, below5 HB1.out⟩
    · have hle2 : a + 2 ≤ s.size := by have := isAt_le b2; exact this
      rw [b2] at h2 HE
      rw [if_pos rfl] at HE
      have H2 : Hid (∀ W, _) := h2
      clear h1 h2 h3 h4 h5 b1 b2
      have H6 : Hid (∀ W, _) := fun W => spec_told s a W hs hle2
      go_enter Tryz.func15, Tryz.ntmps15
      go_wp2_with (first
        | (go_at_call 29; (first | (refine Calls.mono (H1.out _) ?_; clear H1) | (refine Calls.mono (H2.out _) ?_; clear H2)); rintro e w2 ⟨rfl, hw2⟩; have hw3 := hw2.symm; clear hw2; subst hw3)
        | fail)
      refine Calls.mono (H6.out _) ?_
      rintro e w1 ⟨he, hb⟩
      have he' := told_mk he w w1
      obtain ⟨mk, mn, ma, ml, mc, mb, mx, mj, rfl⟩ := mk_shape he'
      rw [HE.out] at he'
      have HMK : Hid _ := mk_of (u0 := .int .i64 mk) (u1 := .string mn) (u2 := .slice ma ml mc) (u3 := .bool mb) (u4 := .string mx) he' (fun m j h => by
        have h' := HE.out.trans h
        unfold tldE at h'
        split at h'
        · cases h'
        · cases h'; rfl)
      have HB1 : Hid (Below w.heap.size w w1) := box_under hb
      obtain ⟨⟨o0, o1, o2, o3, o4⟩, q0, q1, q2, q3, q4⟩ := box5 (box_kept hb)
      clear he he' hb
      go_wp2
      refine bodyPost_ret (by simp [results, Tryz.results15, go_sem, o0, o1, o2, o3, o4]; try rfl) rfl ?_
      exact ⟨HMK.out, below5 HB1.out⟩
  · have HLE : Hid (a + 4 ≤ s.size) := by have := isAt_le b1; exact this
    rw [b1] at h1 HE
    rw [if_pos rfl] at HE
    have H1 : Hid (∀ W, _) := h1
    clear h1 h2 h3 h4 h5 b1
    have h6 : ∀ W, Calls Tryz.prog 30 #[.string s, .int .i64 ((a : Int) + 4), .string ⟨#[45, 45, 62]⟩] W fun e w' => e = .returned (.tuple #[.string (toR s ⟨#[45, 45, 62]⟩ (a + 4)).1, .int .i64 (toR s ⟨#[45, 45, 62]⟩ (a + 4)).2]) ∧ w' = W := fun W => spec_to s ⟨#[45, 45, 62]⟩ (a + 4) W hs (by decide) HLE.out
    cases hj : toI s ⟨#[45, 45, 62]⟩ (a + 4) with
    | none =>
      rw [toR_none hj] at h6
      rw [up_none hj] at HE
      have H6 : Hid (∀ W, _) := h6
      clear hj h6
      go_enter Tryz.func15, Tryz.ntmps15
      go_wp2_with (first
        | (go_at_call 29; (first | (refine Calls.mono (H1.out _) ?_; clear H1)); rintro e w2 ⟨rfl, hw2⟩; have hw3 := hw2.symm; clear hw2; subst hw3)
        | (go_at_call 30; refine Calls.mono (H6.out _) ?_; rintro e w2 ⟨rfl, hw2⟩; have hw3 := hw2.symm; clear hw2; subst hw3))
      refine bodyPost_ret (by simp [results, Tryz.results15, go_sem]; try rfl) rfl ?_
      exact ⟨mk_bad HE.out.symm ⟨_, _, _, _, _, _, _, rfl⟩, HAL.out _⟩
    | some j =>
      rw [toR_some hj] at h6
      rw [up_some hj] at HE
      have H6 : Hid (∀ W, _) := h6
      clear hj h6
      go_enter Tryz.func15, Tryz.ntmps15
      go_wp2_with (first
        | (go_at_call 29; (first | (refine Calls.mono (H1.out _) ?_; clear H1)); rintro e w2 ⟨rfl, hw2⟩; have hw3 := hw2.symm; clear hw2; subst hw3)
        | (go_at_call 30; refine Calls.mono (H6.out _) ?_; rintro e w2 ⟨rfl, hw2⟩; have hw3 := hw2.symm; clear hw2; subst hw3))
      refine bodyPost_ret (by simp [results, Tryz.results15, go_sem]; try rfl) rfl ?_
      exact ⟨mk_plain HE.out.symm rfl, HAL.out _⟩
theorem ext_le (s : ByteArray) (i j : Nat) : (s.extract i j).size ≤ s.size := by rw [ByteArray.size_extract]; omega
theorem toldE_fit {s n x : ByteArray} {a j : Nat} (h : toldE s a = some (n, x, j)) : x.size ≤ s.size := by
  unfold toldE at h
  split at h
  · split at h
    · cases h; exact Nat.zero_le _
    · split at h
      · cases h
      · split at h
        · cases h
        · cases h; exact ext_le _ _ _
  · cases h
theorem markE_fit {s : ByteArray} {a j : Nat} {L : List Pair} {m : MarkV} (h : markE s a L = some (m, j)) (hs : s.size ≤ 1048576) (ha : a < s.size) : m.text.size ≤ 1048576 ∧ RFit m.raws ∧ m.raws.length ≤ 1048576 := by
  have hup : ∀ {t : ByteArray} {b : Nat} {k : Int}, upE s t b k = some (m, j) → m.text.size ≤ 1048576 ∧ RFit m.raws ∧ m.raws.length ≤ 1048576 := fun {t b k} h => by
    unfold upE at h
    split at h
    · cases h
    · cases h
      exact ⟨Nat.le_trans (ext_le _ _ _) hs, rfit_nil, Nat.zero_le _⟩
  unfold markE at h
  split at h
  · exact hup h
  · split at h
    · unfold tldE at h
      split at h
      · cases h
      · rename_i ht
        cases h
        exact ⟨Nat.le_trans (toldE_fit ht) hs, rfit_nil, Nat.zero_le _⟩
    · split at h
      · unfold closeE at h
        split at h
        · split at h
          · cases h; exact ⟨Nat.zero_le _, rfit_nil, Nat.zero_le _⟩
          · cases h
        · cases h
      · split at h
        · exact hup h
        · split at h
          · unfold openE at h
            split at h
            · split at h
              · cases h
              · rename_i ho
                cases h
                have hf := openF_fit hs ho (ends_le s _ _ (by omega)) (Nat.zero_le _) rfit_nil
                exact ⟨Nat.zero_le _, hf.1, Nat.le_trans hf.2.1 (by omega)⟩
            · cases h
          · unfold betweenE at h
            split at h
            · rename_i hc
              cases h
              have h600 := ex_size (n := 0) rfl hc.2
              exact ⟨Nat.le_trans h600.1 (by decide), rfit_nil, Nat.zero_le _⟩
            · cases h
theorem markR_fit {s : ByteArray} {a : Int} {j : Nat} {L : List Pair} {m : MarkV} (h : markR s a L = some (m, j)) (hs : s.size ≤ 1048576) : m.text.size ≤ 1048576 ∧ RFit m.raws ∧ m.raws.length ≤ 1048576 := by
  unfold markR at h
  split at h
  · rename_i hc
    unfold markT at h
    split at h
    · cases h
    · rename_i hm
      split at h
      · cases h
        exact markE_fit hm hs (by omega)
      · cases h
  · cases h
/-- The three parts of what MarkAt answers. -/
def fin (r : Option (MarkV × Nat)) : MarkV × Nat × Bool := match r with | none => (noMark, 0, false) | some (m, j) => (m, j, true)
/-- What MarkAt answers. -/
def ansOk (r : Option (MarkV × Nat)) (w w' : World) (e : Ending) : Prop :=
  ∃ ad c, e = .returned (.tuple #[mkV (fin r).1 ad c, .int .i64 ((fin r).2.1 : Int), .bool (fin r).2.2]) ∧ trees.OwnP w' ad (fin r).1.raws (Rng w w')
theorem ans_bad {r : Option (MarkV × Nat)} {w w' : World} (h : r = none) : ansOk r w w' (.returned (.tuple #[.agg #[.int .i64 0, .string ⟨#[]⟩, .slice none 0 0, .bool false, .string ⟨#[]⟩], .int .i64 0, .bool false])) := by
  subst h
  exact ⟨none, 0, rfl, fun h0 => absurd h0 (Nat.lt_irrefl _)⟩
theorem ans_good {r : Option (MarkV × Nat)} {w w' : World} {m : MarkV} {j : Nat} {ad : Option Addr} {c : Nat} (h : r = some (m, j)) (hown : trees.OwnP w' ad m.raws (Rng w w')) : ansOk r w w' (.returned (.tuple #[.agg #[.int .i64 m.kind, .string m.name, .slice ad m.raws.length c, .bool m.empty, .string m.text], .int .i64 (j : Int), .bool true])) := by
  subst h
  exact ⟨ad, c, rfl, hown⟩
theorem markR_out {s : ByteArray} {a : Int} {L : List Pair} (h : ¬ (0 ≤ a ∧ a < s.size ∧ refs.entsB L = true)) : markR s a L = none := if_neg h
theorem markR_in {s : ByteArray} {a : Nat} {L : List Pair} (h : a < s.size) (he : refs.entsB L = true) : markR s (a : Int) L = markT s a L := by
  unfold markR
  rw [if_pos ⟨Int.natCast_nonneg _, by omega, he⟩, Int.toNat_natCast]
theorem markT_none {s : ByteArray} {a : Nat} {L : List Pair} (h : markE s a L = none) : markT s a L = none := by unfold markT; rw [h]
theorem markT_no {s : ByteArray} {a j : Nat} {L : List Pair} {m : MarkV} (h : markE s a L = some (m, j)) (ht : refs.textB m.text = false) : markT s a L = none := by unfold markT; rw [h]; exact if_neg (by rw [ht]; decide)
theorem markT_yes {s : ByteArray} {a j : Nat} {L : List Pair} {m : MarkV} (h : markE s a L = some (m, j)) (ht : refs.textB m.text = true) : markT s a L = some (m, j) := by unfold markT; rw [h]; exact if_pos ht
set_option maxRecDepth 100000 in
set_option maxHeartbeats 4000000 in
theorem spec_markAt (s : ByteArray) (at_ : Int) (ad : Option Addr) (L : List Pair) (cap : Nat) (w : World) (hs : s.size ≤ 1048576) (hL : PairsAt w ad L) (hv : ∀ i, i < L.length → (at0 L i).2.size ≤ 1048576) : Calls Tryz.prog 5 #[.string s, .int .i64 at_, .slice ad L.length cap] w fun e w' => ansOk (markR s at_ L) w w' e ∧ Below w.heap.size w w' := by
  have HL : Hid (PairsAt w ad L) := hL
  have HV : Hid _ := hv
  have HAL : Hid (∀ o, Below w.heap.size w (w.alloc o)) := fun o => (Below.refl _ _).alloc (Nat.le_refl _) o
  clear hL hv
  by_cases h0 : at_ < 0
  · have HN : Hid (markR s at_ L = none) := markR_out (fun h => by omega)
    go_enter Tryz.func5, Tryz.ntmps5
    go_wp2
    refine bodyPost_ret (by simp [results, Tryz.results5, go_sem]; try rfl) rfl ?_
    exact ⟨ans_bad HN.out, HAL.out _⟩
  · by_cases h1 : at_ < s.size
    · obtain ⟨a, rfl⟩ : ∃ a : Nat, at_ = a := ⟨at_.toNat, by omega⟩
      have ha : a < s.size := by omega
      have h1' : ¬ (s.size : Int) ≤ a := by omega
      have H1 : Hid (∀ W, PairsAt W ad L → _) := fun W h2 => refs.spec_ents ad L cap W h2
      cases he : refs.entsB L
      · rw [he] at H1
        have HN : Hid (markR s (a : Int) L = none) := markR_out (fun h => by rw [he] at h; exact absurd h.2.2 (by decide))
        clear he
        go_enter Tryz.func5, Tryz.ntmps5
        go_wp2_with fail
        refine Calls.mono (H1.out _ (HL.out.below (Nat.le_refl _) (HAL.out _))) ?_
        rintro e w1 ⟨rfl, hb⟩
        have HB1 : Hid (Below w.heap.size w w1) := box_under hb
        obtain ⟨⟨o0, o1, o2, o3, o4⟩, q0, q1, q2, q3, q4⟩ := box5 (box_kept hb)
        clear hb
        go_wp2
        refine bodyPost_ret (by simp [results, Tryz.results5, go_sem, o0, o1, o2, o3, o4]; try rfl) rfl ?_
        exact ⟨ans_bad HN.out, below5 HB1.out⟩
      · rw [he] at H1
        have HM : Hid (markR s (a : Int) L = markT s a L) := markR_in ha he
        clear he
        have H2 : Hid (∀ W, PairsAt W ad L → _) := fun W h2 => spec_mark s a L ad cap W hs ha h2 HV.out
        obtain ⟨M, hM⟩ : ∃ M, markE s a L = M := ⟨_, rfl⟩
        rw [hM] at H2
        have HME : Hid _ := hM
        clear hM
        go_enter Tryz.func5, Tryz.ntmps5
        go_wp2_with fail
        refine Calls.mono (H1.out _ (HL.out.below (Nat.le_refl _) (HAL.out _))) ?_
        rintro e w1 ⟨rfl, hb⟩
        have HB1 : Hid (Below w.heap.size w w1) := box_under hb
        have HX1 : Hid _ := box_kept hb
        clear hb
        go_wp2_with fail
        refine Calls.mono (H2.out _ (HL.out.below (Nat.le_refl _) HB1.out)) ?_
        rintro e w2 ⟨he, hb⟩
        have HB2 : Hid (Below w.heap.size w w2) := HB1.out.trans (hb.mono HB1.out.size)
        have HX2 : Hid _ := (hb.block _ (lt_heap HX1.out)).trans HX1.out
        have HS2 : Hid (w.heap.size < w1.heap.size) := lt_heap HX1.out
        clear hb
        have HX3 : Hid (∀ o, _) := fun o => (Below.heap_alloc w2 o _ (lt_heap HX2.out)).trans HX2.out
        cases M with
        | none =>
          have HN : Hid (markR s (a : Int) L = none) := HM.out.trans (markT_none HME.out)
          obtain ⟨k, n, a', l, c, b, x, rfl⟩ := he
          obtain ⟨⟨o0, o1, o2, o3, o4⟩, q0, q1, q2, q3, q4⟩ := box5 (HX3.out (.cells #[.int .i64 k, .string n, .slice a' l c, .bool b, .string x] 26))
          go_wp2
          refine bodyPost_ret (by simp [results, Tryz.results5, go_sem, o0, o1, o2, o3, o4]; try rfl) rfl ?_
          exact ⟨ans_bad HN.out, below5 (HB2.out.alloc HB2.out.size _)⟩
        | some y =>
          obtain ⟨m, j⟩ := y
          obtain ⟨a', c', rfl, hown⟩ := he
          have HOWN : Hid (trees.OwnP w2 a' m.raws (Rng w1 w2)) := hown
          clear hown
          unfold mkV
          have H3 : Hid (∀ W, _) := fun W => scans.spec_text m.text W (by have := (markE_fit HME.out hs ha).1; unfold maxLen; omega)
          cases ht : refs.textB m.text
          · rw [show (decide (m.text.size ≤ 600) && scans.signs m.text) = false from ht] at H3
            have HN : Hid (markR s (a : Int) L = none) := HM.out.trans (markT_no HME.out ht)
            obtain ⟨⟨o0, o1, o2, o3, o4⟩, q0, q1, q2, q3, q4⟩ := box5 (HX3.out (.cells #[.int .i64 m.kind, .string m.name, .slice a' m.raws.length c', .bool m.empty, .string m.text] 26))
            clear ht
            go_wp2_with (go_at_call 16; refine (H3.out _).mono ?_; rintro e w3 ⟨rfl, hw2⟩; have hw3 := hw2.symm; clear hw2; subst hw3)
            refine bodyPost_ret (by simp [results, Tryz.results5, go_sem, o0, o1, o2, o3, o4]; try rfl) rfl ?_
            exact ⟨ans_bad HN.out, below5 (HB2.out.alloc HB2.out.size _)⟩
          · rw [show (decide (m.text.size ≤ 600) && scans.signs m.text) = true from ht] at H3
            have HG : Hid (markR s (a : Int) L = some (m, j)) := HM.out.trans (markT_yes HME.out ht)
            obtain ⟨⟨o0, o1, o2, o3, o4⟩, q0, q1, q2, q3, q4⟩ := box5 (HX3.out (.cells #[.int .i64 m.kind, .string m.name, .slice a' m.raws.length c', .bool m.empty, .string m.text] 26))
            clear ht
            have HO : Hid (trees.OwnP (w2.alloc (.cells #[.int .i64 m.kind, .string m.name, .slice a' m.raws.length c', .bool m.empty, .string m.text] 26)) a' m.raws (Rng w1 (w2.alloc (.cells #[.int .i64 m.kind, .string m.name, .slice a' m.raws.length c', .bool m.empty, .string m.text] 26)))) := trees.OwnP.sub (trees.OwnP.out (F := Rng w1 w2) (G := fun _ => False) HOWN.out (Out.of_below ((Below.refl _ _).alloc (Nat.le_refl _) _)) (fun _ _ h => h)) (fun x hx => ⟨hx.1, Nat.lt_of_lt_of_le hx.2 (by simp)⟩)
            go_wp2_with (go_at_call 16; refine (H3.out _).mono ?_; rintro e w3 ⟨rfl, hw2⟩; have hw3 := hw2.symm; clear hw2; subst hw3)
            refine bodyPost_ret (by simp [results, Tryz.results5, go_sem, o0, o1, o2, o3, o4]; try rfl) rfl ?_
            refine ⟨ans_good HG.out (own_up HO.out HS2.out (out5 w _ _ _ _ _ _)), below5 (HB2.out.alloc HB2.out.size _)⟩
    · have h1' : (s.size : Int) ≤ at_ := by omega
      have HN : Hid (markR s at_ L = none) := markR_out (fun h => h1 h.2.1)
      go_enter Tryz.func5, Tryz.ntmps5
      go_wp2
      refine bodyPost_ret (by simp [results, Tryz.results5, go_sem]; try rfl) rfl ?_
      exact ⟨ans_bad HN.out, HAL.out _⟩
end Go.Proofs.YtehdpkigfjjbaaaGreatDoor.cuts
