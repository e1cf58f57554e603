/-
  The draws of chapter 4: any lists, right or not.
-/
import Derived.Test.YtifeikodjinpdaaDoorDrawScopes2
namespace Go.Proofs.YtifeikodjinpdaaDoor.draws
open Go.ChangeShapes Go.WideShapes Go.ChangeAt Go.RowKit
open pairs (Pair at0 PairsAt)
set_option linter.unusedVariables false
def any4aL : List ByteArray := [⟨#[120, 109, 108]⟩, ⟨#[120, 109, 108, 110, 115]⟩, ⟨#[120, 109, 108, 97]⟩, ⟨#[97, 58, 98]⟩, ⟨#[49]⟩, ⟨#[122]⟩, ⟨#[112]⟩]
theorem any4aL_size : ∀ s ∈ any4aL, s.size ≤ 5 := by
  intro s hs
  simp only [any4aL, List.mem_cons, List.mem_nil_iff, or_false] at hs
  rcases hs with rfl | rfl | rfl | rfl | rfl | rfl | rfl <;> decide
theorem any4a_list (w : World) (cb len cap : Nat) (a : Option Addr) (hc : CurAt w cb a len cap) :
    Calls Tryd.prog 30 #[.pointer (some ⟨cb, 0, none⟩), .slice (some ⟨w.heap.size, 0, none⟩) 7 7] (w.alloc (.cells #[.string ⟨#[120, 109, 108]⟩, .string ⟨#[120, 109, 108, 110, 115]⟩, .string ⟨#[120, 109, 108, 97]⟩, .string ⟨#[97, 58, 98]⟩, .string ⟨#[49]⟩, .string ⟨#[122]⟩, .string ⟨#[112]⟩] 9)) fun e w' => ∃ s, s ∈ any4aL ∧ e = .returned (.string s) ∧ CurAt w' cb a len cap ∧ ButFor cb w w' :=
  str_new w cb len cap 7 7 a any4aL _ 9 rfl rfl (by decide) (by decide) hc
def any4bL : List ByteArray := [⟨#[]⟩, ⟨#[117, 114, 110, 58, 117]⟩, ⟨#[255]⟩]
theorem any4bL_size : ∀ s ∈ any4bL, s.size ≤ 5 := by
  intro s hs
  simp only [any4bL, List.mem_cons, List.mem_nil_iff, or_false] at hs
  rcases hs with rfl | rfl | rfl <;> decide
theorem any4b_list (w : World) (cb len cap : Nat) (a : Option Addr) (hc : CurAt w cb a len cap) :
    Calls Tryd.prog 30 #[.pointer (some ⟨cb, 0, none⟩), .slice (some ⟨w.heap.size, 0, none⟩) 3 3] (w.alloc (.cells #[.string ⟨#[]⟩, .string ⟨#[117, 114, 110, 58, 117]⟩, .string ⟨#[255]⟩] 9)) fun e w' => ∃ s, s ∈ any4bL ∧ e = .returned (.string s) ∧ CurAt w' cb a len cap ∧ ButFor cb w w' :=
  str_new w cb len cap 3 3 a any4bL _ 9 rfl rfl (by decide) (by decide) hc
def any4cL : List ByteArray := [⟨#[49, 50, 51, 52, 53, 54, 55, 56, 57, 48, 49, 50, 51, 52, 53, 54, 55, 56, 57, 48, 49, 50, 51, 52, 53, 54, 55, 56, 57, 48, 49, 50, 51, 52, 53, 54, 55, 56, 57, 48]⟩, ⟨#[49, 50, 51, 52, 53, 54, 55, 56, 57, 48, 49, 50, 51, 52, 53, 54, 55, 56, 57, 48, 49, 50, 51, 52, 53, 54, 55, 56, 57, 48, 49, 50, 51, 52, 53, 54, 55, 56, 57, 48, 49]⟩]
theorem any4cL_size : ∀ s ∈ any4cL, s.size ≤ 41 := by
  intro s hs
  simp only [any4cL, List.mem_cons, List.mem_nil_iff, or_false] at hs
  rcases hs with rfl | rfl <;> decide
theorem any4c_list (w : World) (cb len cap : Nat) (a : Option Addr) (hc : CurAt w cb a len cap) :
    Calls Tryd.prog 30 #[.pointer (some ⟨cb, 0, none⟩), .slice (some ⟨w.heap.size, 0, none⟩) 2 2] (w.alloc (.cells #[.string ⟨#[49, 50, 51, 52, 53, 54, 55, 56, 57, 48, 49, 50, 51, 52, 53, 54, 55, 56, 57, 48, 49, 50, 51, 52, 53, 54, 55, 56, 57, 48, 49, 50, 51, 52, 53, 54, 55, 56, 57, 48]⟩, .string ⟨#[49, 50, 51, 52, 53, 54, 55, 56, 57, 48, 49, 50, 51, 52, 53, 54, 55, 56, 57, 48, 49, 50, 51, 52, 53, 54, 55, 56, 57, 48, 49, 50, 51, 52, 53, 54, 55, 56, 57, 48, 49]⟩] 9)) fun e w' => ∃ s, s ∈ any4cL ∧ e = .returned (.string s) ∧ CurAt w' cb a len cap ∧ ButFor cb w w' :=
  str_new w cb len cap 2 2 a any4cL _ 9 rfl rfl (by decide) (by decide) hc
def any4dL : List ByteArray := [⟨#[]⟩, ⟨#[112]⟩, ⟨#[113]⟩, ⟨#[114]⟩, ⟨#[120]⟩]
theorem any4dL_size : ∀ s ∈ any4dL, s.size ≤ 1 := by
  intro s hs
  simp only [any4dL, List.mem_cons, List.mem_nil_iff, or_false] at hs
  rcases hs with rfl | rfl | rfl | rfl | rfl <;> decide
theorem any4d_list (w : World) (cb len cap : Nat) (a : Option Addr) (hc : CurAt w cb a len cap) :
    Calls Tryd.prog 30 #[.pointer (some ⟨cb, 0, none⟩), .slice (some ⟨w.heap.size, 0, none⟩) 5 5] (w.alloc (.cells #[.string ⟨#[]⟩, .string ⟨#[112]⟩, .string ⟨#[113]⟩, .string ⟨#[114]⟩, .string ⟨#[120]⟩] 9)) fun e w' => ∃ s, s ∈ any4dL ∧ e = .returned (.string s) ∧ CurAt w' cb a len cap ∧ ButFor cb w w' :=
  str_new w cb len cap 5 5 a any4dL _ 9 rfl rfl (by decide) (by decide) hc
theorem fine_two {n v n' v' : ByteArray} (hn : n.size ≤ 700) (hv : v.size ≤ 700) (hn' : n'.size ≤ 700) (hv' : v'.size ≤ 700) : Fine [(n, v), (n', v')] := fun i hi => by
  rcases (show i = 0 ∨ i = 1 by simp at hi; omega) with rfl | rfl
  · exact ⟨hn, hv⟩
  · exact ⟨hn', hv'⟩
theorem fine_three {n v n' v' n2 v2 : ByteArray} (hn : n.size ≤ 700) (hv : v.size ≤ 700) (hn' : n'.size ≤ 700) (hv' : v'.size ≤ 700) (hn2 : n2.size ≤ 700) (hv2 : v2.size ≤ 700) : Fine [(n, v), (n', v'), (n2, v2)] := fun i hi => by
  rcases (show i = 0 ∨ i = 1 ∨ i = 2 by simp at hi; omega) with rfl | rfl | rfl
  · exact ⟨hn, hv⟩
  · exact ⟨hn', hv'⟩
  · exact ⟨hn2, hv2⟩
set_option maxRecDepth 100000 in
set_option maxHeartbeats 4000000 in
theorem l4any (w : World) (cb len cap : Nat) (a : Option Addr) (HC : Hid (CurAt w cb a len cap)) : Calls Tryd.prog 27 #[.pointer (some ⟨cb, 0, none⟩)] w fun e w' => ∃ v : Value, e = .returned v ∧ ∃ L : List Pair, Drawn 38 w w' cb len cap a v L ∧ L.length ≤ 6 ∧ v ≠ .slice none 0 0 := by
  have H0 : Hid (cb < w.heap.size) := HC.out.here
  go_enter Tryd.func27, Tryd.ntmps27
  go_wp2_with fail
  refine (l4draw _ _ _ _ _ HC).mono ?_
  rintro e w1 ⟨v, rfl, L, hd1, hl1, hv1⟩
  have HD1 : Hid _ := hd1
  obtain ⟨g, c, rfl⟩ := HD1.out.shape hv1
  clear hd1 hv1
  go_wp2_with fail
  refine (below_any _ _ _ _ _ _ (by omega) HD1.out.cur).mono ?_
  rintro e w2 ⟨x, rfl, hx0, hx1, hc2, hb2⟩
  have HD2 : Hid _ := HD1.out.but_for H0.out hc2 hb2
  clear hc2 hb2 HD1
  by_cases h0 : x = 0
  · subst h0
    go_wp2_with fail
    refine (any4a_list _ _ _ _ _ HD2.out.cur).mono ?_
    rintro e w3 ⟨n1, hn1, rfl, hc3, hb3⟩
    have hz1 := any4aL_size n1 hn1
    have HD3 : Hid _ := HD2.out.but_for H0.out hc3 hb3
    clear hn1 hc3 hb3 HD2
    go_wp2_with fail
    refine (any4b_list _ _ _ _ _ HD3.out.cur).mono ?_
    rintro e w4 ⟨u1, hu1, rfl, hc4, hb4⟩
    have hz2 := any4bL_size u1 hu1
    have HD4 : Hid _ := HD3.out.but_for H0.out hc4 hb4
    clear hu1 hc4 hb4 HD3
    have HFN : Hid (Fine [(n1, u1)]) := fine_one (by omega) (by omega)
    go_wp2_with (at_builtin; refine pairs.add_Decl w.heap.size _ L [(n1, u1)] _ 1 HD4.out.own (by omega) HD4.out.but.size rfl (by rfl) (by rfl) _ _ (by rfl) (by rfl) (by rfl) ?_; rintro v' w5 ho5 hs5 hk5 h51 h52 h53)
    go_ret
    exact ⟨v', rfl, L ++ [(n1, u1)], HD4.out.added HC.out HFN.out ho5 hs5 hk5 h51 h52 h53, by rw [List.length_append]; show L.length + 1 ≤ 6; omega, own_not_nil ho5 (by simp)⟩
  · by_cases h1 : x = 1
    · subst h1
      go_wp2_with fail
      refine (l4decl _ _ _ _ _ HD2.out.cur).mono ?_
      rintro e w3 ⟨n1, u1, rfl, hz1, hz2, hc3, hb3⟩
      have HD3 : Hid _ := HD2.out.but_for H0.out hc3 hb3
      clear hc3 hb3 HD2
      go_wp2_with fail
      refine (l4decl _ _ _ _ _ HD3.out.cur).mono ?_
      rintro e w4 ⟨n2, u2, rfl, hz3, hz4, hc4, hb4⟩
      have HD4 : Hid _ := HD3.out.but_for H0.out hc4 hb4
      clear hc4 hb4 HD3
      have HFN : Hid (Fine [(n1, u1), (n2, u2)]) := fine_two (by omega) (by omega) (by omega) (by omega)
      go_wp2_with (at_builtin; refine pairs.add_Decl w.heap.size _ L [(n1, u1), (n2, u2)] _ 2 HD4.out.own (by omega) HD4.out.but.size rfl (by rfl) (by rfl) _ _ (by rfl) (by rfl) (by rfl) ?_; rintro v' w5 ho5 hs5 hk5 h51 h52 h53)
      go_ret
      exact ⟨v', rfl, L ++ [(n1, u1), (n2, u2)], HD4.out.added HC.out HFN.out ho5 hs5 hk5 h51 h52 h53, by rw [List.length_append]; show L.length + 2 ≤ 6; omega, own_not_nil ho5 (by simp)⟩
    · by_cases h2 : x = 2
      · subst h2
        go_wp2_with fail
        refine (any4c_list _ _ _ _ _ HD2.out.cur).mono ?_
        rintro e w3 ⟨u1, hu1, rfl, hc3, hb3⟩
        have hz1 := any4cL_size u1 hu1
        have HD4 : Hid _ := HD2.out.but_for H0.out hc3 hb3
        clear hu1 hc3 hb3 HD2
        have HFN : Hid (Fine [(⟨#[115]⟩, u1), (⟨#[116]⟩, ⟨#[117]⟩), (⟨#[117]⟩, ⟨#[117]⟩)]) := fine_three (by decide) (by omega) (by decide) (by decide) (by decide) (by decide)
        go_wp2_with (at_builtin; refine pairs.add_Decl w.heap.size _ L [(⟨#[115]⟩, u1), (⟨#[116]⟩, ⟨#[117]⟩), (⟨#[117]⟩, ⟨#[117]⟩)] _ 3 HD4.out.own (by omega) HD4.out.but.size rfl (by rfl) (by rfl) _ _ (by rfl) (by rfl) (by rfl) ?_; rintro v' w5 ho5 hs5 hk5 h51 h52 h53)
        go_ret
        exact ⟨v', rfl, L ++ [(⟨#[115]⟩, u1), (⟨#[116]⟩, ⟨#[117]⟩), (⟨#[117]⟩, ⟨#[117]⟩)], HD4.out.added HC.out HFN.out ho5 hs5 hk5 h51 h52 h53, by rw [List.length_append]; show L.length + 3 ≤ 6; omega, own_not_nil ho5 (by simp)⟩
      · have e0 : (x == 0) = false := by simpa using h0
        have e1 : (x == 1) = false := by simpa using h1
        have e2 : (x == 2) = false := by simpa using h2
        have g0 : (0 == x) = false := by simpa using fun e => h0 e.symm
        have g1 : (1 == x) = false := by simpa using fun e => h1 e.symm
        have g2 : (2 == x) = false := by simpa using fun e => h2 e.symm
        go_wp2
        go_ret
        exact ⟨_, rfl, L, HD2.out, by omega, by simp⟩
end Go.Proofs.YtifeikodjinpdaaDoor.draws
