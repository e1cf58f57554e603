/-
  The draws of chapter 4: lists.
-/
import Derived.Test.YtpejcblmglbjfaaDrawScopes
import Derived.Deep.QuietTactic
import Derived.BigQuiet
import Derived.Test.YtpejcblmglbjfaaQuiet
namespace Go.Proofs.Ytpejcblmglbjfaa.draws
open Go.ChangeShapes Go.WideShapes Go.ChangeAt Go.RowKit
open pairs (Pair at0 PairsAt)
set_option linter.unusedVariables false
theorem hold2 {w W : World} {n u : ByteArray} {t : TypeId} (h : Below (w.alloc (.cells #[.string n, .string u] t)).heap.size (w.alloc (.cells #[.string n, .string u] t)) W) : W.cell? ⟨w.heap.size, 0, none⟩ = some (.string n) ∧ W.cell? ⟨w.heap.size, 1, none⟩ = some (.string u) :=
  ⟨(h.cell (p := ⟨w.heap.size, 0, none⟩) (by simp)).trans (pairs.cell_new w _ t 0 _ rfl), (h.cell (p := ⟨w.heap.size, 1, none⟩) (by simp)).trans (pairs.cell_new w _ t 1 _ rfl)⟩
theorem own_not_nil {t : TypeId} {w : World} {B : Nat} {v : Value} {L : List Pair} (h : pairs.OwnP t w B v L) (hl : 0 < L.length) : v ≠ .slice none 0 0 := by
  rcases h.2 with ⟨e, h0⟩ | ⟨g, c, cur, e, _⟩
  · omega
  · rw [e]; simp
theorem Drawn.alloc {ty : TypeId} {w wr : World} {cb len cap : Nat} {a : Option Addr} {v : Value} {L : List Pair} (h : Drawn ty w wr cb len cap a v L) (o : Obj) : Drawn ty w (wr.alloc o) cb len cap a v L :=
  ⟨World.ownsRow.alloc h.own o, h.fine, h.cur.alloc o, h.but.alloc o⟩
theorem Drawn.below {ty : TypeId} {w wr w2 : World} {cb len cap : Nat} {a : Option Addr} {v : Value} {L : List Pair} (h : Drawn ty w wr cb len cap a v L) (hb : Below wr.heap.size wr w2) : Drawn ty w w2 cb len cap a v L :=
  ⟨pairs.OwnP.below h.own hb, h.fine, h.cur.stays (Nat.le_refl _) hb, h.but.trans (ButFor.of_below hb)⟩
theorem Drawn.shape {ty : TypeId} {w wr : World} {cb len cap : Nat} {a : Option Addr} {v : Value} {L : List Pair} (h : Drawn ty w wr cb len cap a v L) (hv : v ≠ .slice none 0 0) : ∃ g c, v = .slice (some ⟨g, 0, none⟩) L.length c := by
  rcases h.own.2 with ⟨e, _⟩ | ⟨g, c, cur, e, _⟩
  · exact absurd e hv
  · exact ⟨g, c, e⟩
theorem Drawn.last {ty : TypeId} {w wr : World} {cb len cap k : Nat} {a : Option Addr} {v : Value} {L : List Pair} (h : Drawn ty w wr cb len cap a v L) (hk : L.length = k + 1) (hl : L.length ≤ 1000) : ∃ g c m, v = .slice (some ⟨g, 0, none⟩) (k + 1) c ∧ g < wr.heap.size ∧ wr.cell? ⟨g, k * 2, none⟩ = some (.string m) := by
  obtain ⟨a', cap', hv, hp⟩ := pairs.OwnP.pairs h.own (by unfold maxLen; omega) (fun i hi => by have := h.fine i hi; unfold maxLen; omega)
  obtain ⟨b, off, ha, hlt, hc⟩ := hp.row (by omega)
  rcases h.own.2 with ⟨e, h0⟩ | ⟨g, c, cur, e, _⟩
  · omega
  · rw [hv, ha] at e
    cases e
    refine ⟨b, cap', (at0 L k).1, by rw [hv, ha, hk], hlt, ?_⟩
    have := (hc k (by omega)).1
    rwa [Nat.zero_add] at this
set_option maxRecDepth 100000 in
set_option maxHeartbeats 2000000 in
theorem l4draw (w : World) (cb len cap : Nat) (a : Option Addr) (HC : Hid (CurAt w cb a len cap)) : Calls Try.prog 98 #[.pointer (some ⟨cb, 0, none⟩)] w fun e w' => ∃ v : Value, e = .returned v ∧ ∃ L : List Pair, Drawn 84 w w' cb len cap a v L ∧ L.length ≤ 3 ∧ v ≠ .slice none 0 0 := by
  have H0 : Hid (cb < w.heap.size) := HC.out.here
  go_enter Try.func98, Try.ntmps98
  go_wp2_with fail
  refine (below_any _ _ _ _ _ _ (by omega) (HC.out.alloc _)).mono ?_
  rintro e w1 ⟨x, rfl, hx0, hx1, hc1, hb1⟩
  have HD1 : Hid (Drawn 84 w w1 cb len cap a (.slice (some ⟨w.heap.size, 0, none⟩) 0 0) []) := ⟨own_but (pairs.new_Decl w _ (Nat.le_refl _)) H0.out hb1, (fun i hi => by cases hi), hc1, (ButFor.refl cb w).alloc _ |>.trans hb1⟩
  have hx3 : x ≤ 3 := by omega
  clear hc1 hb1 hx1
  go_wp2_with fail
  go_loopw [3, 4] (fun v t wr => ∃ (L : List Pair) (i : Nat) (g c : Nat), v = .slice (some ⟨g, 0, none⟩) L.length c ∧ t = .int .i64 i ∧ i ≤ 3 ∧ L.length + i ≤ 3 ∧ Hid (Drawn 84 w wr cb len cap a (.slice (some ⟨g, 0, none⟩) L.length c) L)) (fun _ t _ => (intOf t).toNat)
  case atStart =>
    obtain ⟨i, rfl⟩ : ∃ i : Nat, x = i := ⟨x.toNat, by omega⟩
    exact ⟨[], i, w.heap.size, 0, rfl, rfl, by omega, by show 0 + i ≤ 3; omega, HD1⟩
  case round =>
    obtain ⟨L, i, g, c, rfl, rfl, hi, hli, hd⟩ := hrel
    by_cases hlt : 0 < i
    · have hlt' : (0 : Int) < i := by omega
      go_wp2_with fail
      refine (l4decl _ _ _ _ _ hd.out.cur).mono ?_
      rintro e w2 ⟨n, u, rfl, hn, hu, hc2, hb2⟩
      have HD2 : Hid _ := hd.out.but_for H0.out hc2 hb2
      clear hc2 hb2 hd
      obtain ⟨wb, hwb⟩ : ∃ wb, w2.alloc (.cells #[.string n, .string u] 84) = wb := ⟨_, rfl⟩
      have hl1 : ∀ W, Below wb.heap.size wb W → W.cell? ⟨w2.heap.size, 0, none⟩ = some (.string n) := fun W h => by subst hwb; exact (hold2 h).1
      have hl2 : ∀ W, Below wb.heap.size wb W → W.cell? ⟨w2.heap.size, 1, none⟩ = some (.string u) := fun W h => by subst hwb; exact (hold2 h).2
      have HDB : Hid (Drawn 84 w wb cb len cap a (.slice (some ⟨g, 0, none⟩) L.length c) L) := by subst hwb; exact HD2.out.alloc _
      by_cases hl0 : L.length = 0
      · obtain rfl : L = [] := List.length_eq_zero_iff.1 hl0
        clear hl0
        go_wp2_with fail
        try rw [hwb]
        refine quiets.wp_region_below (by kernel_rfl) (by kernel_rfl) ?_
        repeat (go_big_quiet_step ((first | (intro hq; rfl) | (intro hq; simp [go_sem, hl1 _ hq]; rfl))))
        refine wpQuiet_nil ?_
        intro w6 hb6
        have HD6 : Hid _ := HDB.out.below hb6
        have hd0 := hl1 _ hb6
        have hd1 := hl2 _ hb6
        have HFN : Hid (Fine [(n, u)]) := fine_one (by omega) (by omega)
        clear hb6 hl1 hl2
        go_wp2_with (at_builtin; refine pairs.add_Decl w.heap.size _ [] [(n, u)] _ 1 HD6.out.own (by simp) HD6.out.but.size rfl (by rfl) (by rfl) _ _ (by rfl) (by rfl) (by rfl) ?_; rintro v' w7 ho7 hs7 hk7 h71 h72 h73)
        have HD7 : Hid _ := HD6.out.added HC.out HFN.out ho7 hs7 hk7 h71 h72 h73
        have hlv : ([] ++ [(n, u)] : List Pair).length = 1 := rfl
        obtain ⟨g7, c7, rfl⟩ := HD7.out.shape (own_not_nil ho7 (by simp))
        clear ho7 hs7 hk7 h71 h72 h73
        go_roundw
        case rel => exact ⟨[] ++ [(n, u)], i - 1, g7, c7, rfl, by go_num, by omega, by have : 0 + i ≤ 3 := hli; show 1 + (i - 1) ≤ 3; omega, HD7.out⟩
        case measure => simp [intOf]; omega
      · obtain ⟨k, hk⟩ : ∃ k, L.length = k + 1 := ⟨L.length - 1, by omega⟩
        obtain ⟨g', c', m, hv', hg', hm⟩ := HDB.out.last hk (by omega)
        obtain ⟨rfl, -⟩ : g = g' ∧ c = c' := by rw [hk] at hv'; cases hv'; exact ⟨rfl, rfl⟩
        have hl3 : ∀ W, Below wb.heap.size wb W → W.cell? ⟨g, k * 2, none⟩ = some (.string m) := fun W h => (h.cell (p := ⟨g, k * 2, none⟩) hg').trans hm
        have hsub : IntKind.i64.wrap ((L.length : Int) - 1) = (k : Int) := by rw [IntKind.wrap_i64]; omega
        have hklt : (k : Int) < L.length := by omega
        have hl0' : ((L.length : Int) == 0) = false := by simpa using (show ¬ (L.length : Int) = 0 by omega)
        have HK : Hid _ := hk
        clear hm hv' hk hl0
        cases hq1 : Op.bytesLess m.toList n.toList
        · go_wp2_with fail
          try rw [hwb]
          refine quiets.wp_region_below (by kernel_rfl) (by kernel_rfl) ?_
          repeat (go_big_quiet_step ((first | (intro hq; rfl) | (intro hq; simp [go_sem, hl1 _ hq]; rfl) | (intro hq; simp [go_sem, hl3 _ hq]; rfl) | (intro hq; simp [go_sem, hq1]; try rfl))))
          refine wpQuiet_nil ?_
          intro w6 hb6
          have HD6 : Hid _ := HDB.out.below hb6
          have hd0 := hl1 _ hb6
          have hd1 := hl2 _ hb6
          have HFN : Hid (Fine [(n, u)]) := fine_one (by omega) (by omega)
          clear hb6 hl1 hl2
          go_wp2
          go_roundw
          case rel => exact ⟨L, i - 1, g, c, rfl, by go_num, by omega, by omega, HD6.out⟩
          case measure => simp [intOf]; omega
        · go_wp2_with fail
          try rw [hwb]
          refine quiets.wp_region_below (by kernel_rfl) (by kernel_rfl) ?_
          repeat (go_big_quiet_step ((first | (intro hq; rfl) | (intro hq; simp [go_sem, hl1 _ hq]; rfl) | (intro hq; simp [go_sem, hl3 _ hq]; rfl) | (intro hq; simp [go_sem, hq1]; try rfl))))
          refine wpQuiet_nil ?_
          intro w6 hb6
          have HD6 : Hid _ := HDB.out.below hb6
          have hd0 := hl1 _ hb6
          have hd1 := hl2 _ hb6
          have HFN : Hid (Fine [(n, u)]) := fine_one (by omega) (by omega)
          clear hb6 hl1 hl2
          go_wp2_with (at_builtin; refine pairs.add_Decl w.heap.size _ L [(n, u)] _ 1 HD6.out.own (by omega) HD6.out.but.size rfl (by rfl) (by rfl) _ _ (by rfl) (by rfl) (by rfl) ?_; rintro v' w7 ho7 hs7 hk7 h71 h72 h73)
          have HD7 : Hid _ := HD6.out.added HC.out HFN.out ho7 hs7 hk7 h71 h72 h73
          have hlv : (L ++ [(n, u)]).length = L.length + 1 := by rw [List.length_append]; rfl
          obtain ⟨g7, c7, rfl⟩ := HD7.out.shape (own_not_nil ho7 (by omega))
          clear ho7 hs7 hk7 h71 h72 h73
          go_roundw
          case rel => exact ⟨L ++ [(n, u)], i - 1, g7, c7, rfl, by go_num, by omega, by omega, HD7.out⟩
          case measure => simp [intOf]; omega
    · have hlt' : ¬ (0 : Int) < i := by omega
      go_wp2
      go_ret
      exact ⟨_, rfl, L, hd.out, by omega, by simp⟩
end Go.Proofs.Ytpejcblmglbjfaa.draws
