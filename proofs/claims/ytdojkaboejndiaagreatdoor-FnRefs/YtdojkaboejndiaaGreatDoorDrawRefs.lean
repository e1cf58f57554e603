/-
  The draws of chapter 3: each returns something, whatever the bytes are.
-/
import Derived.Test.YtdojkaboejndiaaGreatDoorDraw3
import Derived.Test.YtdojkaboejndiaaGreatDoorPairs
import Derived.Test.YtdojkaboejndiaaGreatDoorPairOwnEnt
import Derived.Test.YtdojkaboejndiaaGreatDoorDrawPairs
import Derived.Laws.OwnMore
namespace Go.Proofs.YtdojkaboejndiaaGreatDoor.draws
open Go.ChangeShapes Go.WideShapes Go.ChangeAt Go.RowKit
open pairs (Pair at0 PairsAt)
set_option linter.unusedVariables false

theorem under3 {w w1 w2 : World} {cb : Nat} (h : Below w.heap.size w w1) (hcb : cb = w.heap.size) (hc : cb < w1.heap.size) (hb : ButFor cb w1 w2) : Below w.heap.size w w2 :=
  h.trans (hb.below (by omega) (by omega))
theorem esc_ret {w w' : World} {s : ByteArray} (hs : s.size ≤ 700) (hb : Below w.heap.size w w') : ∃ s' : ByteArray, Ending.returned (.string s) = .returned (.string s') ∧ s'.size ≤ 700 ∧ Below w.heap.size w w' := ⟨s, rfl, hs, hb⟩
set_option maxRecDepth 100000 in
set_option maxHeartbeats 1000000 in
theorem drawEscText (w : World) (len cap : Nat) (a : Option Addr) (hz : len ≤ 1048576) (hr : Hid (RowAt w a len)) : Calls Tryz.prog 5 #[.slice a len cap] w fun e w' => ∃ s : ByteArray, e = .returned (.string s) ∧ s.size ≤ 700 ∧ Below w.heap.size w w' := by
  go_enter Tryz.func5, Tryz.ntmps5
  go_wp2_with fail
  refine (new_any _ _ _ _ hz hr).mono ?_
  rintro e w1 ⟨cb, rfl, hcb, hc1, hb1⟩
  have HC1 : Hid _ := hc1
  have HB1 : Hid _ := hb1
  have HCB : Hid _ := hcb
  clear hc1 hb1 hcb hr
  go_wp2_with fail
  refine (text_any _ _ _ _ _ HC1).mono ?_
  rintro e w2 ⟨s, rfl, hs, hc2, hb2⟩
  have HB2 : Hid _ := under3 HB1.out HCB.out HC1.out.here hb2
  clear hc2 hb2
  go_wp2
  go_ret
  exact esc_ret hs HB2.out
def refsL : List ByteArray := [⟨#[97]⟩, ⟨#[32]⟩, ⟨#[38, 108, 116, 59]⟩, ⟨#[38, 97, 109, 112, 59]⟩, ⟨#[38, 113, 117, 111, 116, 59]⟩, ⟨#[38, 97, 112, 111, 115, 59]⟩, ⟨#[38, 103, 116, 59]⟩, ⟨#[38, 101, 59]⟩, ⟨#[38, 102, 49, 59]⟩, ⟨#[38, 35, 54, 53, 59]⟩, ⟨#[38, 35, 120, 52, 49, 59]⟩, ⟨#[38, 35, 120, 101, 57, 59]⟩, ⟨#[38, 35, 48, 59]⟩, ⟨#[38, 35, 120, 68, 56, 48, 48, 59]⟩, ⟨#[38, 35, 49, 49, 49, 52, 49, 49, 49, 59]⟩, ⟨#[38, 35, 49, 49, 49, 52, 49, 49, 50, 59]⟩, ⟨#[38, 35, 120, 49, 48, 70, 70, 70, 70, 59]⟩, ⟨#[38]⟩, ⟨#[38, 59]⟩, ⟨#[38, 35, 59]⟩, ⟨#[38, 35, 120, 59]⟩, ⟨#[38, 35, 48, 48, 48, 48, 48, 48, 54, 53, 59]⟩, ⟨#[38, 110, 111, 112, 101, 59]⟩, ⟨#[59]⟩, ⟨#[38, 101]⟩]
theorem refsL_size : ∀ s ∈ refsL, s.size ≤ 11 := by
  intro s hs
  simp only [refsL, List.mem_cons, List.mem_nil_iff, or_false] at hs
  rcases hs with rfl | rfl | rfl | rfl | rfl | rfl | rfl | rfl | rfl | rfl | rfl | rfl | rfl | rfl | rfl | rfl | rfl | rfl | rfl | rfl | rfl | rfl | rfl | rfl | rfl <;> decide
theorem refs_list (w : World) (cb len cap : Nat) (a : Option Addr) (hc : CurAt w cb a len cap) :
    Calls Tryz.prog 35 #[.pointer (some ⟨cb, 0, none⟩), .slice (some ⟨w.heap.size, 0, none⟩) 25 25] (w.alloc (.cells #[.string ⟨#[97]⟩, .string ⟨#[32]⟩, .string ⟨#[38, 108, 116, 59]⟩, .string ⟨#[38, 97, 109, 112, 59]⟩, .string ⟨#[38, 113, 117, 111, 116, 59]⟩, .string ⟨#[38, 97, 112, 111, 115, 59]⟩, .string ⟨#[38, 103, 116, 59]⟩, .string ⟨#[38, 101, 59]⟩, .string ⟨#[38, 102, 49, 59]⟩, .string ⟨#[38, 35, 54, 53, 59]⟩, .string ⟨#[38, 35, 120, 52, 49, 59]⟩, .string ⟨#[38, 35, 120, 101, 57, 59]⟩, .string ⟨#[38, 35, 48, 59]⟩, .string ⟨#[38, 35, 120, 68, 56, 48, 48, 59]⟩, .string ⟨#[38, 35, 49, 49, 49, 52, 49, 49, 49, 59]⟩, .string ⟨#[38, 35, 49, 49, 49, 52, 49, 49, 50, 59]⟩, .string ⟨#[38, 35, 120, 49, 48, 70, 70, 70, 70, 59]⟩, .string ⟨#[38]⟩, .string ⟨#[38, 59]⟩, .string ⟨#[38, 35, 59]⟩, .string ⟨#[38, 35, 120, 59]⟩, .string ⟨#[38, 35, 48, 48, 48, 48, 48, 48, 54, 53, 59]⟩, .string ⟨#[38, 110, 111, 112, 101, 59]⟩, .string ⟨#[59]⟩, .string ⟨#[38, 101]⟩] 9)) fun e w' => ∃ s, s ∈ refsL ∧ e = .returned (.string s) ∧ CurAt w' cb a len cap ∧ ButFor cb w w' :=
  str_new w cb len cap 25 25 a refsL _ 9 rfl rfl (by decide) (by decide) hc
set_option maxRecDepth 100000 in
set_option maxHeartbeats 2000000 in
theorem l3refs (w : World) (cb len cap : Nat) (a : Option Addr) (HC : Hid (CurAt w cb a len cap)) : Calls Tryz.prog 21 #[.pointer (some ⟨cb, 0, none⟩)] w fun e w' => ∃ s : ByteArray, e = .returned (.string s) ∧ s.size ≤ 44 ∧ CurAt w' cb a len cap ∧ ButFor cb w w' := by
  go_enter Tryz.func21, Tryz.ntmps21
  go_wp2_with fail
  refine (below_any _ _ _ _ _ _ (by omega) HC.out).mono ?_
  rintro e w1 ⟨x, rfl, hx0, hx1, hc1, hb1⟩
  have HC1 : Hid _ := hc1
  have HB1 : Hid _ := hb1
  have hx3 : x ≤ 4 := by omega
  clear hc1 hb1 hx1
  go_wp2_with fail
  go_loopw [3, 4] (fun v t w' => ∃ (s : ByteArray) (i : Nat), v = .string s ∧ t = .int .i64 i ∧ i ≤ 4 ∧ s.size + 11 * i ≤ 44 ∧ Hid (CurAt w' cb a len cap) ∧ Hid (ButFor cb w w')) (fun _ t _ => (intOf t).toNat)
  case atStart =>
    obtain ⟨i, rfl⟩ : ∃ i : Nat, x = i := ⟨x.toNat, by omega⟩
    exact ⟨⟨#[]⟩, i, rfl, rfl, by omega, by show 0 + 11 * i ≤ 44; omega, HC1, HB1⟩
  case round =>
    obtain ⟨s, i, rfl, rfl, hi, hsz, hc, hb⟩ := hrel
    by_cases hlt : 0 < i
    · have hlt' : (0 : Int) < i := by omega
      go_wp2_with fail
      refine (refs_list _ _ _ _ _ hc.out).mono ?_
      rintro e w2 ⟨u, hu, rfl, hc2, hb2⟩
      have hus := refsL_size u hu
      have HC2 : Hid _ := hc2
      have HB2 : Hid _ := hb.out.trans hb2
      clear hu hc2 hb2
      go_wp2
      go_roundw
      case rel => exact ⟨s ++ u, i - 1, rfl, by go_num, by omega, by rw [ByteArray.size_append]; omega, HC2, HB2⟩
      case measure => simp [intOf]; omega
    · have hlt' : ¬ (0 : Int) < i := by omega
      go_wp2
      go_ret
      exact ⟨s, rfl, by omega, hc.out, hb.out⟩
/-! ### Entries: a row of pairs of the call's own -/
def ent1L : List ByteArray := [⟨#[101]⟩, ⟨#[102]⟩, ⟨#[103]⟩]
theorem ent1L_size : ∀ s ∈ ent1L, s.size ≤ 1 := by
  intro s hs
  simp only [ent1L, List.mem_cons, List.mem_nil_iff, or_false] at hs
  rcases hs with rfl | rfl | rfl <;> decide
theorem ent1_list (w : World) (cb len cap : Nat) (a : Option Addr) (hc : CurAt w cb a len cap) :
    Calls Tryz.prog 35 #[.pointer (some ⟨cb, 0, none⟩), .slice (some ⟨w.heap.size, 0, none⟩) 3 3] (w.alloc (.cells #[.string ⟨#[101]⟩, .string ⟨#[102]⟩, .string ⟨#[103]⟩] 9)) fun e w' => ∃ s, s ∈ ent1L ∧ e = .returned (.string s) ∧ CurAt w' cb a len cap ∧ ButFor cb w w' :=
  str_new w cb len cap 3 3 a ent1L _ 9 rfl rfl (by decide) (by decide) hc
def ent2L : List ByteArray := [⟨#[]⟩, ⟨#[49]⟩]
theorem ent2L_size : ∀ s ∈ ent2L, s.size ≤ 1 := by
  intro s hs
  simp only [ent2L, List.mem_cons, List.mem_nil_iff, or_false] at hs
  rcases hs with rfl | rfl <;> decide
theorem ent2_list (w : World) (cb len cap : Nat) (a : Option Addr) (hc : CurAt w cb a len cap) :
    Calls Tryz.prog 35 #[.pointer (some ⟨cb, 0, none⟩), .slice (some ⟨w.heap.size, 0, none⟩) 2 2] (w.alloc (.cells #[.string ⟨#[]⟩, .string ⟨#[49]⟩] 9)) fun e w' => ∃ s, s ∈ ent2L ∧ e = .returned (.string s) ∧ CurAt w' cb a len cap ∧ ButFor cb w w' :=
  str_new w cb len cap 2 2 a ent2L _ 9 rfl rfl (by decide) (by decide) hc
def ent3L : List ByteArray := [⟨#[]⟩, ⟨#[120]⟩, ⟨#[97, 38, 98]⟩, ⟨#[60]⟩, ⟨#[195, 169, 32]⟩]
theorem ent3L_size : ∀ s ∈ ent3L, s.size ≤ 3 := by
  intro s hs
  simp only [ent3L, List.mem_cons, List.mem_nil_iff, or_false] at hs
  rcases hs with rfl | rfl | rfl | rfl | rfl <;> decide
theorem ent3_list (w : World) (cb len cap : Nat) (a : Option Addr) (hc : CurAt w cb a len cap) :
    Calls Tryz.prog 35 #[.pointer (some ⟨cb, 0, none⟩), .slice (some ⟨w.heap.size, 0, none⟩) 5 5] (w.alloc (.cells #[.string ⟨#[]⟩, .string ⟨#[120]⟩, .string ⟨#[97, 38, 98]⟩, .string ⟨#[60]⟩, .string ⟨#[195, 169, 32]⟩] 9)) fun e w' => ∃ s, s ∈ ent3L ∧ e = .returned (.string s) ∧ CurAt w' cb a len cap ∧ ButFor cb w w' :=
  str_new w cb len cap 5 5 a ent3L _ 9 rfl rfl (by decide) (by decide) hc
def ent4L : List ByteArray := [⟨#[108, 116]⟩, ⟨#[]⟩, ⟨#[101, 58, 102]⟩, ⟨#[111, 107]⟩]
theorem ent4L_size : ∀ s ∈ ent4L, s.size ≤ 3 := by
  intro s hs
  simp only [ent4L, List.mem_cons, List.mem_nil_iff, or_false] at hs
  rcases hs with rfl | rfl | rfl | rfl <;> decide
theorem ent4_list (w : World) (cb len cap : Nat) (a : Option Addr) (hc : CurAt w cb a len cap) :
    Calls Tryz.prog 35 #[.pointer (some ⟨cb, 0, none⟩), .slice (some ⟨w.heap.size, 0, none⟩) 4 4] (w.alloc (.cells #[.string ⟨#[108, 116]⟩, .string ⟨#[]⟩, .string ⟨#[101, 58, 102]⟩, .string ⟨#[111, 107]⟩] 9)) fun e w' => ∃ s, s ∈ ent4L ∧ e = .returned (.string s) ∧ CurAt w' cb a len cap ∧ ButFor cb w w' :=
  str_new w cb len cap 4 4 a ent4L _ 9 rfl rfl (by decide) (by decide) hc
theorem fine_four : Fine [(⟨#[118]⟩, ⟨#[]⟩), (⟨#[119]⟩, ⟨#[]⟩), (⟨#[120]⟩, ⟨#[]⟩), (⟨#[121]⟩, ⟨#[]⟩)] := fun i hi => by
  rcases (show i = 0 ∨ i = 1 ∨ i = 2 ∨ i = 3 by simp at hi; omega) with rfl | rfl | rfl | rfl <;> decide
set_option maxRecDepth 100000 in
set_option maxHeartbeats 4000000 in
theorem l3ents (w : World) (cb len cap : Nat) (a : Option Addr) (HC : Hid (CurAt w cb a len cap)) : Calls Tryz.prog 23 #[.pointer (some ⟨cb, 0, none⟩)] w fun e w' => ∃ (a' : Option Addr) (L : List Pair) (cap' : Nat), e = .returned (.slice a' L.length cap') ∧ PairsAt w' a' L ∧ Fine L ∧ L.length ≤ 7 ∧ CurAt w' cb a len cap ∧ ButFor cb w w' := by
  have H0 : Hid (cb < w.heap.size) := HC.out.here
  go_enter Tryz.func23, Tryz.ntmps23
  go_wp2_with fail
  refine (below_any _ _ _ _ _ _ (by omega) (HC.out.alloc _)).mono ?_
  rintro e w1 ⟨x, rfl, hx0, hx1, hc1, hb1⟩
  have HD1 : Hid (Drawn 44 w w1 cb len cap a (.slice (some ⟨w.heap.size, 0, none⟩) 0 0) []) := ⟨own_but (pairs.new_Ent w _ (Nat.le_refl _)) H0.out hb1, (fun i hi => by cases hi), hc1, (ButFor.refl cb w).alloc _ |>.trans hb1⟩
  have hx3 : x ≤ 2 := by omega
  clear hc1 hb1 hx1
  go_wp2_with fail
  go_loopw [3, 4] (fun v t wr => ∃ (L : List Pair) (i : Nat), t = .int .i64 i ∧ i ≤ 2 ∧ L.length + i ≤ 2 ∧ Hid (Drawn 44 w wr cb len cap a v L)) (fun _ t _ => (intOf t).toNat)
  case atStart =>
    obtain ⟨i, rfl⟩ : ∃ i : Nat, x = i := ⟨x.toNat, by omega⟩
    exact ⟨[], i, rfl, by omega, by show 0 + i ≤ 2; omega, HD1⟩
  case round =>
    obtain ⟨L, i, rfl, hi, hli, hd⟩ := hrel
    by_cases hlt : 0 < i
    · have hlt' : (0 : Int) < i := by omega
      go_wp2_with fail
      refine (ent1_list _ _ _ _ _ hd.out.cur).mono ?_
      rintro e w2 ⟨n1, hn1, rfl, hc2, hb2⟩
      have hz1 := ent1L_size n1 hn1
      have HD2 : Hid _ := hd.out.but_for H0.out hc2 hb2
      clear hn1 hc2 hb2
      go_wp2_with fail
      refine (ent2_list _ _ _ _ _ HD2.out.cur).mono ?_
      rintro e w3 ⟨n2, hn2, rfl, hc3, hb3⟩
      have hz2 := ent2L_size n2 hn2
      have HD3 : Hid _ := HD2.out.but_for H0.out hc3 hb3
      clear hn2 hc3 hb3
      go_wp2_with fail
      refine (ent3_list _ _ _ _ _ HD3.out.cur).mono ?_
      rintro e w4 ⟨v1, hv1, rfl, hc4, hb4⟩
      have hz3 := ent3L_size v1 hv1
      have HD4 : Hid _ := HD3.out.but_for H0.out hc4 hb4
      clear hv1 hc4 hb4
      have HFN : Hid (Fine [(n1 ++ n2, v1)]) := fine_one (by rw [ByteArray.size_append]; omega) (by omega)
      go_wp2_with (at_builtin; refine pairs.add_Ent w.heap.size _ L [(n1 ++ n2, v1)] _ 1 HD4.out.own (by omega) HD4.out.but.size rfl (by rfl) (by rfl) _ _ (by rfl) (by rfl) (by rfl) ?_; rintro v' w5 ho5 hs5 hk5 h51 h52 h53)
      go_roundw
      case rel => exact ⟨L ++ [(n1 ++ n2, v1)], i - 1, by go_num, by omega, (by rw [List.length_append]; show L.length + 1 + (i - 1) ≤ 2; omega), HD4.out.added HC.out HFN.out ho5 hs5 hk5 h51 h52 h53⟩
      case measure => simp [intOf]; omega
    · have hlt' : ¬ (0 : Int) < i := by omega
      have hl2 : L.length ≤ 2 := by omega
      go_wp2_with fail
      refine (once_any _ _ _ _ _ _ (by omega) hd.out.cur).mono ?_
      rintro e w2 ⟨q, rfl, hc2, hb2⟩
      have HD2 : Hid _ := hd.out.but_for H0.out hc2 hb2
      clear hc2 hb2 hd
      cases q
      · go_wp2_with fail
        refine (once_any _ _ _ _ _ _ (by omega) HD2.out.cur).mono ?_
        rintro e wA ⟨q2, rfl, hcA, hbA⟩
        have HDA : Hid _ := HD2.out.but_for H0.out hcA hbA
        clear hcA hbA
        cases q2
        · go_wp2
          go_ret
          exact HDA.out.ends (by omega)
        · go_wp2_with (at_builtin; refine pairs.add_Ent w.heap.size _ _ [(⟨#[118]⟩, ⟨#[]⟩), (⟨#[119]⟩, ⟨#[]⟩), (⟨#[120]⟩, ⟨#[]⟩), (⟨#[121]⟩, ⟨#[]⟩)] _ 4 HDA.out.own (by omega) HDA.out.but.size rfl (by rfl) (by rfl) _ _ (by rfl) (by rfl) (by rfl) ?_; rintro v5 w8 ho8 hs8 hk8 h81 h82 h83)
          go_ret
          exact (HDA.out.added HC.out fine_four ho8 hs8 hk8 h81 h82 h83).ends (by rw [List.length_append]; show L.length + 4 ≤ 7; omega)
      · go_wp2_with fail
        refine (ent4_list _ _ _ _ _ HD2.out.cur).mono ?_
        rintro e w3 ⟨n1, hn1, rfl, hc3, hb3⟩
        have hz1 := ent4L_size n1 hn1
        have HD3 : Hid _ := HD2.out.but_for H0.out hc3 hb3
        clear hn1 hc3 hb3
        go_wp2_with fail
        refine (text_any _ _ _ _ _ HD3.out.cur).mono ?_
        rintro e w4 ⟨v1, rfl, hz3, hc4, hb4⟩
        have HD4 : Hid _ := HD3.out.but_for H0.out hc4 hb4
        clear hc4 hb4
        have HFN : Hid (Fine [(n1, v1)]) := fine_one (by omega) (by omega)
        go_wp2_with (first
          | (at_builtin; refine pairs.add_Ent w.heap.size _ L [(n1, v1)] _ 1 HD4.out.own (by omega) HD4.out.but.size rfl (by rfl) (by rfl) _ _ (by rfl) (by rfl) (by rfl) ?_; rintro v' w5 ho5 hs5 hk5 h51 h52 h53)
          | fail)
        have HD5 : Hid _ := HD4.out.added HC.out HFN.out ho5 hs5 hk5 h51 h52 h53
        have hl5 : (L ++ [(n1, v1)]).length ≤ 3 := by rw [List.length_append]; show L.length + 1 ≤ 3; omega
        clear ho5 hs5 hk5 h51 h52 h53
        go_wp2_with fail
        refine (once_any _ _ _ _ _ _ (by omega) HD5.out.cur).mono ?_
        rintro e wA ⟨q2, rfl, hcA, hbA⟩
        have HDA : Hid _ := HD5.out.but_for H0.out hcA hbA
        clear hcA hbA
        cases q2
        · go_wp2
          go_ret
          exact HDA.out.ends (by omega)
        · go_wp2_with (at_builtin; refine pairs.add_Ent w.heap.size _ _ [(⟨#[118]⟩, ⟨#[]⟩), (⟨#[119]⟩, ⟨#[]⟩), (⟨#[120]⟩, ⟨#[]⟩), (⟨#[121]⟩, ⟨#[]⟩)] _ 4 HDA.out.own (by omega) HDA.out.but.size rfl (by rfl) (by rfl) _ _ (by rfl) (by rfl) (by rfl) ?_; rintro v5 w8 ho8 hs8 hk8 h81 h82 h83)
          go_ret
          exact (HDA.out.added HC.out fine_four ho8 hs8 hk8 h81 h82 h83).ends (by rw [List.length_append]; show (L ++ [(n1, v1)]).length + 4 ≤ 7; omega)
theorem exp_ret {w wr : World} {cb len cap : Nat} {a a' : Option Addr} {L : List Pair} {cap' : Nat} {s : ByteArray} (hs : s.size ≤ 800) (hp : PairsAt wr a' L) (hf : Fine L) (hl : L.length ≤ 7) (hb : Below w.heap.size w wr) :
    ∃ (s' : ByteArray) (a2 : Option Addr) (L2 : List Pair) (c2 : Nat), Ending.returned (.tuple #[.string s, .slice a' L.length cap']) = .returned (.tuple #[.string s', .slice a2 L2.length c2]) ∧ s'.size ≤ 800 ∧ PairsAt wr a2 L2 ∧ Fine L2 ∧ L2.length ≤ 7 ∧ Below w.heap.size w wr := ⟨s, a', L, cap', rfl, hs, hp, hf, hl, hb⟩
set_option maxRecDepth 100000 in
set_option maxHeartbeats 2000000 in
theorem drawExpand (w : World) (len cap : Nat) (a : Option Addr) (hz : len ≤ 1048576) (hr : Hid (RowAt w a len)) : Calls Tryz.prog 8 #[.slice a len cap] w fun e w' => ∃ (s : ByteArray) (a' : Option Addr) (L : List Pair) (cap' : Nat), e = .returned (.tuple #[.string s, .slice a' L.length cap']) ∧ s.size ≤ 800 ∧ PairsAt w' a' L ∧ Fine L ∧ L.length ≤ 7 ∧ Below w.heap.size w w' := by
  go_enter Tryz.func8, Tryz.ntmps8
  go_wp2_with fail
  refine (new_any _ _ _ _ hz hr).mono ?_
  rintro e w1 ⟨cb, rfl, hcb, hc1, hb1⟩
  have HC1 : Hid _ := hc1
  have HB1 : Hid _ := hb1
  have HCB : Hid _ := hcb
  clear hc1 hb1 hcb hr
  go_wp2_with fail
  refine (l3refs _ _ _ _ _ HC1).mono ?_
  rintro e w2 ⟨s, rfl, hs, hc2, hb2⟩
  have HC2 : Hid _ := hc2
  have HBB2 : Hid _ := hb2
  clear hc2 hb2
  go_wp2_with fail
  refine (once_any _ _ _ _ _ _ (by omega) HC2).mono ?_
  rintro e w3 ⟨q, rfl, hc3, hb3⟩
  have HC3 : Hid _ := hc3
  have HBB3 : Hid _ := HBB2.out.trans hb3
  clear hc3 hb3
  cases q
  · go_wp2_with fail
    refine (l3ents _ _ _ _ _ HC3).mono ?_
    rintro e w4 ⟨a', L, cap', rfl, hp, hf, hl, hc4, hb4⟩
    have HP : Hid _ := hp
    have HF : Hid _ := hf
    have HB4 : Hid _ := under3 HB1.out HCB.out HC1.out.here (HBB3.out.trans hb4)
    clear hp hf hc4 hb4
    go_wp2
    go_ret2
    exact exp_ret (cb := cb) (len := len) (cap := cap) (a := a) (by omega) HP.out HF.out hl HB4.out
  · go_wp2_with fail
    refine (text_any _ _ _ _ _ HC3).mono ?_
    rintro e w4 ⟨u, rfl, hu, hc4, hb4⟩
    have HC4 : Hid _ := hc4
    have HBB4 : Hid _ := HBB3.out.trans hb4
    clear hc4 hb4
    go_wp2_with fail
    refine (l3ents _ _ _ _ _ HC4).mono ?_
    rintro e w5 ⟨a', L, cap', rfl, hp, hf, hl, hc5, hb5⟩
    have HP : Hid _ := hp
    have HF : Hid _ := hf
    have HB5 : Hid _ := under3 HB1.out HCB.out HC1.out.here (HBB4.out.trans hb5)
    clear hp hf hc5 hb5
    go_wp2
    go_ret2
    exact exp_ret (cb := cb) (len := len) (cap := cap) (a := a) (by rw [ByteArray.size_append]; omega) HP.out HF.out hl HB5.out
end Go.Proofs.YtdojkaboejndiaaGreatDoor.draws
