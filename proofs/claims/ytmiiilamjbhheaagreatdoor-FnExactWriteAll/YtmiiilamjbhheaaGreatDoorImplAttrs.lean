/-
  What the program's attrOrder, attrOk and attrsOk answer.
-/
import Derived.Test.YtmiiilamjbhheaaGreatDoorImplAttr
import Derived.StillTailTactics
import Derived.Outline
namespace Go.Proofs.YtmiiilamjbhheaaGreatDoor.trees
open Go.ChangeShapes Go.WideShapes Go.ChangeAt Go.RowKit
open pairs (Pair at0 PairsAt)
open scopes (ret_bool preOkB uriOkB textB xmlB impl_preOkH impl_uriOkH impl_textD box_below)
set_option linter.unusedVariables false
def attV (x : Att) : Value := .agg #[.string x.pre, .string x.loc, .string x.uri, .string x.val]
def ascA (L : List Att) (i : Nat) : Bool := ordB L i
theorem atts_no {L : List Att} {i : Nat} (hi : i < L.length) (h : (attB (att0 L i) && ordB L i) = false) : attsB L = false := by
  unfold attsB
  rw [List.all_eq_false]
  exact ⟨i, List.mem_range.2 hi, by rw [h]; decide⟩
theorem atts_end {L : List Att} (h : ∀ i, i < L.length → (attB (att0 L i) && ordB L i) = true) : attsB L = true := by
  unfold attsB
  rw [List.all_eq_true]
  exact fun i hi => h i (List.mem_range.1 hi)
theorem ord_zero {L : List Att} : ordB L 0 = true := rfl
theorem ord_more {L : List Att} {j : Nat} : ordB L (j + 1) = lessB (att0 L j) (att0 L (j + 1)) := by
  unfold ordB
  rw [decide_eq_false (by omega), Bool.false_or, Nat.add_sub_cancel]
theorem atts_next {L : List Att} {i : Nat} (h : ∀ j, j < i → (attB (att0 L j) && ordB L j) = true) (h1 : (attB (att0 L i) && ordB L i) = true) : ∀ j, j < i + 1 → (attB (att0 L j) && ordB L j) = true := fun j hj => by
  by_cases e : j = i
  · rw [e]; exact h1
  · exact h j (by omega)
theorem box_cells4 (w w' : World) (c0 c1 c2 c3 : Value) (t : TypeId) (hb : Below (w.alloc (.cells #[c0, c1, c2, c3] t)).heap.size (w.alloc (.cells #[c0, c1, c2, c3] t)) w') : w'.cell? ⟨w.heap.size, 0, none⟩ = some c0 ∧ w'.cell? ⟨w.heap.size, 1, none⟩ = some c1 ∧ w'.cell? ⟨w.heap.size, 2, none⟩ = some c2 ∧ w'.cell? ⟨w.heap.size, 3, none⟩ = some c3 := by
  have hlt : w.heap.size < (w.alloc (.cells #[c0, c1, c2, c3] t)).heap.size := by simp
  rw [hb.cell (p := ⟨w.heap.size, 0, none⟩) hlt, hb.cell (p := ⟨w.heap.size, 1, none⟩) hlt, hb.cell (p := ⟨w.heap.size, 2, none⟩) hlt, hb.cell (p := ⟨w.heap.size, 3, none⟩) hlt]
  exact box4 (t := t) (by show (w.heap.push _)[w.heap.size]? = _; simp)
theorem cell_new2 (w : World) (C : Array Value) (t : TypeId) (i : Nat) (v : Value) (h : C[i]? = some v) : (w.alloc (.cells C t)).cell? ⟨w.heap.size, i, none⟩ = some v := by simp [h]
set_option maxRecDepth 100000 in
set_option maxHeartbeats 2000000 in
theorem attr_order (x y : Att) (w : World) : Calls Tryz.prog 117 #[attV x, attV y] w fun e w' => e = .returned (.int .i64 (ordI x y)) ∧ Below w.heap.size w w' := by
  obtain ⟨c0, h0⟩ : ∃ c, cmpB x.uri y.uri = c := ⟨_, rfl⟩
  obtain ⟨c1, h1⟩ : ∃ c, cmpB x.loc y.loc = c := ⟨_, rfl⟩
  have HO : Hid (ordI x y = bif c0 == 0 then c1 else c0) := by show _ = _; unfold ordI; rw [h0, h1]
  obtain ⟨xp, xl, xu, xv⟩ := x
  obtain ⟨yp, yl, yu, yv⟩ := y
  have H0 := compare_H _ _ c0 h0
  have H1 := compare_H _ _ c1 h1
  have hmx : Tryz.prog.follows .mixedOrders = true := by kernel_rfl
  dsimp only at H0 H1
  clear h0 h1
  unfold attV
  go_enter Tryz.func117, Tryz.ntmps117
  go_wp2_with fail
  obtain ⟨W0, hW0⟩ : ∃ W0, (w.alloc (.cells #[.string xp, .string xl, .string xu, .string xv] 80)).alloc (.cells #[.string yp, .string yl, .string yu, .string yv] 80) = W0 := ⟨_, rfl⟩
  have HBW : Hid (Below w.heap.size w W0) := hW0 ▸ ((Below.refl _ w).alloc (Nat.le_refl _) _).alloc (by simp) _
  have hx1 : W0.heap[w.heap.size]? = some (.cells #[.string xp, .string xl, .string xu, .string xv] 80) := hW0 ▸ (Below.heap_alloc _ _ _ (by simp)).trans (heap_alloc_new w _)
  have hx2 : W0.heap[w.heap.size + 1]? = some (.cells #[.string yp, .string yl, .string yu, .string yv] 80) := by
    have := heap_alloc_new (w.alloc (.cells #[.string xp, .string xl, .string xu, .string xv] 80)) (.cells #[.string yp, .string yl, .string yu, .string yv] 80)
    rw [World.size_alloc] at this
    exact hW0 ▸ this
  rw [hW0]
  obtain ⟨-, a1, a2, -⟩ := box4 hx1
  obtain ⟨-, b1, b2, -⟩ := box4 hx2
  have d1 : ∀ d, (World.mk W0.heap W0.tape d W0.os W0.output).cell? ⟨w.heap.size, 1, none⟩ = some (.string xl) := fun _ => a1
  have d2 : ∀ d, (World.mk W0.heap W0.tape d W0.os W0.output).cell? ⟨w.heap.size, 2, none⟩ = some (.string xu) := fun _ => a2
  have d3 : ∀ d, (World.mk W0.heap W0.tape d W0.os W0.output).cell? ⟨w.heap.size + 1, 1, none⟩ = some (.string yl) := fun _ => b1
  have d4 : ∀ d, (World.mk W0.heap W0.tape d W0.os W0.output).cell? ⟨w.heap.size + 1, 2, none⟩ = some (.string yu) := fun _ => b2
  clear hx1 hx2 hW0 a1 a2 b1 b2
  refine wp_region_still_tail 10 hmx (by kernel_rfl) ?_
  simp only [List.take_succ_cons, List.take_zero, List.drop_succ_cons, List.drop_zero]
  still_step
  still_step
  still_step
  still_step
  still_call (H0 _)
  still_step
  still_step
  still_step
  still_step
  still_call (H1 _)
  refine wpStill_nil ?_
  go_wp2_with fail
  refine (or_two _ c0 c1 _ ?_ ?_).mono ?_
  · exact cell_new2 _ _ _ 0 _ rfl
  · exact cell_new2 _ _ _ 1 _ rfl
  rintro e w6 ⟨rfl, hb6⟩
  have HB6 : Hid (Below w.heap.size w w6) := hb6 ▸ (HBW.out.alloc HBW.out.size _).drew
  clear hb6
  go_wp2
  go_ret
  exact ⟨ret_int HO.out.symm, HB6.out⟩
theorem plainH (l : ByteArray) (b : Bool) (hl : l.size ≤ maxLen) (h : names.plainB l = b) (w : World) (hT : scopes.Tabs w) : Calls Tryz.prog 91 #[.string l] w fun e w' => e = .returned (.bool b) ∧ Below w.heap.size w w' := by rw [← h]; exact names.impl_plain l w hl hT.name
theorem textH (s : ByteArray) (b : Bool) (hs : s.size ≤ maxLen) (h : textB s = b) (w : World) (hT : scopes.Tabs w) : Calls Tryz.prog 88 #[.string s] w fun e w' => e = .returned (.bool b) ∧ Below w.heap.size w w' := by rw [← h]; exact impl_textD s w hs hT
set_option maxRecDepth 100000 in
set_option maxHeartbeats 2000000 in
theorem attr_ok (x : Att) (w : World) (hf : x.fits) (hT : scopes.Tabs w) : Calls Tryz.prog 116 #[attV x] w fun e w' => e = .returned (.bool (attB x)) ∧ Below w.heap.size w w' := by
  obtain ⟨p, l, u, v⟩ := x
  obtain ⟨f1, f2, f3, f4⟩ := hf
  dsimp only at f1 f2 f3 f4
  obtain ⟨b1, h1⟩ : ∃ b, preOkB p = b := ⟨_, rfl⟩
  obtain ⟨b2, h2⟩ : ∃ b, uriOkB u = b := ⟨_, rfl⟩
  obtain ⟨b3, h3⟩ : ∃ b, names.plainB l = b := ⟨_, rfl⟩
  obtain ⟨b4, h4⟩ : ∃ b, textB v = b := ⟨_, rfl⟩
  have H1 : Hid (∀ w, scopes.Tabs w → _) := impl_preOkH p b1 f1 h1
  have H2 : Hid (∀ w, scopes.Tabs w → _) := impl_uriOkH u b2 f3 h2
  have H3 : Hid (∀ w, scopes.Tabs w → _) := plainH l b3 f2 h3
  have H4 : Hid (∀ w, scopes.Tabs w → _) := textH v b4 f4 h4
  have HD : Hid (attB ⟨p, l, u, v⟩ = (!(p.toList.isEmpty != u.toList.isEmpty) && (!(p.toList.isEmpty && (l.toList == [120, 109, 108, 110, 115])) && (b1 && (b2 && (b3 && b4)))))) := by
    show _ = _
    rw [← attrB_eq, ← h1, ← h2, ← h3, ← h4]
    rfl
  have HT : Hid _ := hT
  clear h1 h2 h3 h4 hT f1 f2 f3 f4
  unfold attV
  dsimp only
  cases hpe : p.toList.isEmpty <;> cases hue : u.toList.isEmpty
  · rw [hpe, hue] at HD
    go_enter Tryz.func116, Tryz.ntmps116
    go_wp2_with fail
    refine (H1.out _ (HT.out.below ((Below.refl _ _).alloc (Nat.le_refl _) _))).mono ?_
    rintro e w1 ⟨rfl, hb1⟩
    have HB1 : Hid _ := box_below hb1
    obtain ⟨hd0, hd1, hd2, hd3⟩ := box_cells4 _ _ _ _ _ _ _ hb1
    have hlt : w.heap.size < w1.heap.size := Nat.lt_of_lt_of_le (by simp) hb1.size
    clear hb1
    cases b1
    · go_wp2
      go_ret
      exact ⟨ret_bool HD.out.symm, HB1.out⟩
    · go_wp2_with fail
      refine (H2.out _ (HT.out.below HB1.out)).mono ?_
      rintro e w2 ⟨rfl, hb2⟩
      have HB2 : Hid _ := HB1.out.trans (hb2.mono HB1.out.size)
      have he1 := (hb2.cell (p := ⟨w.heap.size, 1, none⟩) hlt).trans hd1
      have he3 := (hb2.cell (p := ⟨w.heap.size, 3, none⟩) hlt).trans hd3
      have hlt2 : w.heap.size < w2.heap.size := Nat.lt_of_lt_of_le hlt hb2.size
      clear hb2 hd0 hd1 hd2 hd3
      cases b2
      · go_wp2
        go_ret
        exact ⟨ret_bool HD.out.symm, HB2.out⟩
      · go_wp2_with fail
        refine (H3.out _ (HT.out.below HB2.out)).mono ?_
        rintro e w3 ⟨rfl, hb3⟩
        have HB3 : Hid _ := HB2.out.trans (hb3.mono HB2.out.size)
        have hg3 := (hb3.cell (p := ⟨w.heap.size, 3, none⟩) hlt2).trans he3
        clear hb3 he1 he3
        cases b3
        · go_wp2
          go_ret
          exact ⟨ret_bool HD.out.symm, HB3.out⟩
        · go_wp2_with fail
          refine (H4.out _ (HT.out.below HB3.out)).mono ?_
          rintro e w4 ⟨rfl, hb4⟩
          have HB4 : Hid _ := HB3.out.trans (hb4.mono HB3.out.size)
          clear hb4
          go_wp2
          go_ret
          exact ⟨ret_bool HD.out.symm, HB4.out⟩
  · rw [hpe, hue] at HD
    go_enter Tryz.func116, Tryz.ntmps116
    go_wp2
    go_ret
    exact ⟨ret_bool HD.out.symm, (Below.refl _ _).alloc (Nat.le_refl _) _⟩
  · rw [hpe, hue] at HD
    go_enter Tryz.func116, Tryz.ntmps116
    go_wp2
    go_ret
    exact ⟨ret_bool HD.out.symm, (Below.refl _ _).alloc (Nat.le_refl _) _⟩
  · cases hx : (l.toList == [120, 109, 108, 110, 115])
    · rw [hpe, hue, hx] at HD
      go_enter Tryz.func116, Tryz.ntmps116
      go_wp2_with fail
      refine (H1.out _ (HT.out.below ((Below.refl _ _).alloc (Nat.le_refl _) _))).mono ?_
      rintro e w1 ⟨rfl, hb1⟩
      have HB1 : Hid _ := box_below hb1
      obtain ⟨hd0, hd1, hd2, hd3⟩ := box_cells4 _ _ _ _ _ _ _ hb1
      have hlt : w.heap.size < w1.heap.size := Nat.lt_of_lt_of_le (by simp) hb1.size
      clear hb1
      cases b1
      · go_wp2
        go_ret
        exact ⟨ret_bool HD.out.symm, HB1.out⟩
      · go_wp2_with fail
        refine (H2.out _ (HT.out.below HB1.out)).mono ?_
        rintro e w2 ⟨rfl, hb2⟩
        have HB2 : Hid _ := HB1.out.trans (hb2.mono HB1.out.size)
        have he1 := (hb2.cell (p := ⟨w.heap.size, 1, none⟩) hlt).trans hd1
        have he3 := (hb2.cell (p := ⟨w.heap.size, 3, none⟩) hlt).trans hd3
        have hlt2 : w.heap.size < w2.heap.size := Nat.lt_of_lt_of_le hlt hb2.size
        clear hb2 hd0 hd1 hd2 hd3
        cases b2
        · go_wp2
          go_ret
          exact ⟨ret_bool HD.out.symm, HB2.out⟩
        · go_wp2_with fail
          refine (H3.out _ (HT.out.below HB2.out)).mono ?_
          rintro e w3 ⟨rfl, hb3⟩
          have HB3 : Hid _ := HB2.out.trans (hb3.mono HB2.out.size)
          have hg3 := (hb3.cell (p := ⟨w.heap.size, 3, none⟩) hlt2).trans he3
          clear hb3 he1 he3
          cases b3
          · go_wp2
            go_ret
            exact ⟨ret_bool HD.out.symm, HB3.out⟩
          · go_wp2_with fail
            refine (H4.out _ (HT.out.below HB3.out)).mono ?_
            rintro e w4 ⟨rfl, hb4⟩
            have HB4 : Hid _ := HB3.out.trans (hb4.mono HB3.out.size)
            clear hb4
            go_wp2
            go_ret
            exact ⟨ret_bool HD.out.symm, HB4.out⟩
    · rw [hpe, hue, hx] at HD
      go_enter Tryz.func116, Tryz.ntmps116
      go_wp2
      go_ret
      exact ⟨ret_bool HD.out.symm, (Below.refl _ _).alloc (Nat.le_refl _) _⟩
theorem attr_okH (x : Att) (b : Bool) (hf : x.fits) (h : attB x = b) (w : World) (hT : scopes.Tabs w) : Calls Tryz.prog 116 #[.agg #[.string x.pre, .string x.loc, .string x.uri, .string x.val]] w fun e w' => e = .returned (.bool b) ∧ Below w.heap.size w w' := by rw [← h]; exact attr_ok x w hf hT
theorem attr_orderH (x y : Att) (c : Int) (h : ordI x y = c) (w : World) : Calls Tryz.prog 117 #[.agg #[.string x.pre, .string x.loc, .string x.uri, .string x.val], .agg #[.string y.pre, .string y.loc, .string y.uri, .string y.val]] w fun e w' => e = .returned (.int .i64 c) ∧ Below w.heap.size w w' := by rw [← h]; exact attr_order x y w
set_option maxRecDepth 100000 in
set_option maxHeartbeats 4000000 in
theorem attrs_ok (a : Option Addr) (L : List Att) (cap : Nat) (w : World) (hT : scopes.Tabs w) (hL : AttsAt w a L) : Calls Tryz.prog 100 #[.slice a L.length cap] w fun e w' => e = .returned (.bool (decide ((L.length : Int) ≤ 5) && attsB L)) ∧ Below w.heap.size w w' := by
  have HT : Hid (scopes.Tabs w) := hT
  have HL : Hid (AttsAt w a L) := hL
  have hlen := hL.short
  unfold maxLen at hlen
  clear hT hL
  by_cases h5 : L.length ≤ 5
  · have hl : (L.length : Int) ≤ 5 := by omega
    rw [decide_eq_true hl, Bool.true_and]
    go_enter Tryz.func100, Tryz.ntmps100
    go_wp2
    go_loopw [10] (fun t wr => ∃ i : Nat, i ≤ L.length ∧ t = .int .i64 i ∧ Hid (∀ j, j < i → (attB (att0 L j) && ordB L j) = true) ∧ Hid (Below w.heap.size w wr)) (fun t _ => L.length - (intOf t).toNat)
    case atStart => exact ⟨0, Nat.zero_le _, rfl, (fun j hj => by omega), Below.refl _ _⟩
    case round =>
      obtain ⟨i, hi, rfl, hup, hbw⟩ := hrel
      by_cases hlt : i < L.length
      · obtain ⟨b, off, ha, hblt, hc⟩ := (HL.out.below (Nat.le_refl _) hbw.out).row (by omega)
        have hts := HL.out.texts i hlt
        obtain ⟨hc0, hc1, hc2, hc3⟩ := hc i hlt
        obtain ⟨db, hdb⟩ : ∃ db, attB (att0 L i) = db := ⟨_, rfl⟩
        have hD := attr_okH (att0 L i) db hts hdb
        have hal : ∀ o, Below wr.heap.size wr (wr.alloc o) := fun o => (Below.refl _ _).alloc (Nat.le_refl _) o
        have hTw : ∀ o W, Below (wr.alloc o).heap.size (wr.alloc o) W → scopes.Tabs W := fun o W h => HT.out.below (hbw.out.trans (((hal o).trans (h.mono (by simp))).mono hbw.out.size))
        have hBw : ∀ o W, Below (wr.alloc o).heap.size (wr.alloc o) W → Below w.heap.size w W := fun o W h => hbw.out.trans (((hal o).trans (h.mono (by simp))).mono hbw.out.size)
        have hcell : ∀ o W, Below (wr.alloc o).heap.size (wr.alloc o) W → ∀ k v, wr.cell? ⟨b, k, none⟩ = some v → W.cell? ⟨b, k, none⟩ = some v := fun o W h k v hv => (((hal o).trans (h.mono (by simp))).cell (p := ⟨b, k, none⟩) hblt).trans hv
        subst ha
        by_cases hz : 0 < i
        · obtain ⟨j, rfl⟩ : ∃ j, i = j + 1 := ⟨i - 1, by omega⟩
          obtain ⟨hp0, hp1, hp2, hp3⟩ := hc j (by omega)
          have hasc := @ord_more L j
          have hgq := ord_geq (att0 L j) (att0 L (j + 1))
          obtain ⟨c, hcc⟩ : ∃ c, ordI (att0 L j) (att0 L (j + 1)) = c := ⟨_, rfl⟩
          have hO := attr_orderH _ _ c hcc
          rw [hcc] at hgq
          have hsub : IntKind.i64.wrap (((j + 1 : Nat) : Int) - 1) = (j : Int) := by rw [IntKind.wrap_i64]; omega
          have hjlt : (j : Int) < L.length := by omega
          have hj0 : (0 : Int) < ((j + 1 : Nat) : Int) := by omega
          have hno := @atts_no L (j + 1) hlt
          have hun := fun h => @atts_next L (j + 1) hup.out h
          rw [hasc] at hno hun
          clear hc hts hasc hcc
          generalize att0 L (j + 1) = x at hD hc0 hc1 hc2 hc3 hno hun hdb hO hgq
          generalize att0 L j = y at hO hno hun hgq hp0 hp1 hp2 hp3
          obtain ⟨n0, n1, n2, n3⟩ := x
          obtain ⟨m0, m1, m2, m3⟩ := y
          have HNO : Hid (∀ h, _) := hno
          have HUN : Hid (∀ h, _) := hun
          have HDB : Hid _ := hdb
          have HGQ : Hid _ := hgq
          clear hdb hno hun hgq
          dsimp only at hD hO hc0 hc1 hc2 hc3 hp0 hp1 hp2 hp3
          obtain ⟨wb, hwb⟩ : ∃ wb, wr.alloc (.cells #[.string n0, .string n1, .string n2, .string n3] 80) = wb := ⟨_, rfl⟩
          have hl0 : ∀ W, Below wb.heap.size wb W → W.cell? ⟨wr.heap.size, 0, none⟩ = some (.string n0) := fun W h => by subst hwb; exact (box_cells4 _ _ _ _ _ _ _ h).1
          have hl1 : ∀ W, Below wb.heap.size wb W → W.cell? ⟨wr.heap.size, 1, none⟩ = some (.string n1) := fun W h => by subst hwb; exact (box_cells4 _ _ _ _ _ _ _ h).2.1
          have hl2 : ∀ W, Below wb.heap.size wb W → W.cell? ⟨wr.heap.size, 2, none⟩ = some (.string n2) := fun W h => by subst hwb; exact (box_cells4 _ _ _ _ _ _ _ h).2.2.1
          have hl3 : ∀ W, Below wb.heap.size wb W → W.cell? ⟨wr.heap.size, 3, none⟩ = some (.string n3) := fun W h => by subst hwb; exact (box_cells4 _ _ _ _ _ _ _ h).2.2.2
          have hm0 : ∀ W, Below wb.heap.size wb W → W.cell? ⟨b, off + j * 4, none⟩ = some (.string m0) := fun W h => by subst hwb; exact hcell _ W h _ _ hp0
          have hm1 : ∀ W, Below wb.heap.size wb W → W.cell? ⟨b, off + j * 4 + 1, none⟩ = some (.string m1) := fun W h => by subst hwb; exact hcell _ W h _ _ hp1
          have hm2 : ∀ W, Below wb.heap.size wb W → W.cell? ⟨b, off + j * 4 + 2, none⟩ = some (.string m2) := fun W h => by subst hwb; exact hcell _ W h _ _ hp2
          have hm3 : ∀ W, Below wb.heap.size wb W → W.cell? ⟨b, off + j * 4 + 3, none⟩ = some (.string m3) := fun W h => by subst hwb; exact hcell _ W h _ _ hp3
          have hT2 : ∀ W, Below wb.heap.size wb W → scopes.Tabs W := fun W h => by subst hwb; exact hTw _ W h
          have HB2 : Hid (∀ W, Below wb.heap.size wb W → Below w.heap.size w W) := fun W h => by subst hwb; exact hBw _ W h
          clear hp0 hp1 hp2 hp3 hTw hBw hal hcell
          cases db
          · have HF : Hid (attsB L = false) := HNO.out (by rw [HDB.out]; rfl)
            go_wp2_with fail
            try rw [hwb]
            refine quiets.wp_region_below (by kernel_rfl) (by kernel_rfl) ?_
            repeat (go_big_quiet_step ((first | (intro hq; rfl) | (intro hq; simp [go_sem, hl0 _ hq, hl1 _ hq, hl2 _ hq, hl3 _ hq]; rfl) | (intro hq; exact quiets.below_call (hD _ (hT2 _ hq)) hq))))
            refine wpQuiet_nil ?_
            intro w6 hb6
            have HB6 : Hid _ := HB2.out _ hb6
            clear hb6 hl0 hl1 hl2 hl3 hT2
            go_wp2
            go_ret
            exact ⟨ret_bool HF.out.symm, HB6.out⟩
          · by_cases hc0' : (0 : Int) ≤ c
            · have hc0 : decide ((0 : Int) ≤ c) = true := decide_eq_true hc0'
              have HF : Hid (attsB L = false) := HNO.out (by have := HGQ.out; rw [decide_eq_true hc0'] at this; rw [HDB.out, Bool.true_and]; simpa using this.symm)
              go_wp2_with fail
              try rw [hwb]
              refine quiets.wp_region_below (by kernel_rfl) (by kernel_rfl) ?_
              repeat (go_big_quiet_step ((first | (intro hq; rfl) | (intro hq; simp [go_sem, hl0 _ hq, hl1 _ hq, hl2 _ hq, hl3 _ hq]; rfl) | (intro hq; simp [go_sem, hm0 _ hq, hm1 _ hq, hm2 _ hq, hm3 _ hq]; rfl) | (intro hq; simp [go_sem, hc0]; try rfl) | (intro hq; exact quiets.below_call (hD _ (hT2 _ hq)) hq) | (intro hq; exact quiets.below_call (hO _) hq))))
              refine wpQuiet_nil ?_
              intro w6 hb6
              have HB6 : Hid _ := HB2.out _ hb6
              clear hb6 hl0 hl1 hl2 hl3 hT2
              go_wp2
              go_ret
              exact ⟨ret_bool HF.out.symm, HB6.out⟩
            · have hc0 : decide ((0 : Int) ≤ c) = false := decide_eq_false hc0'
              have HU : Hid _ := HUN.out (by have := HGQ.out; rw [decide_eq_false hc0'] at this; rw [HDB.out, Bool.true_and]; simpa using this.symm)
              go_wp2_with fail
              try rw [hwb]
              refine quiets.wp_region_below (by kernel_rfl) (by kernel_rfl) ?_
              repeat (go_big_quiet_step ((first | (intro hq; rfl) | (intro hq; simp [go_sem, hl0 _ hq, hl1 _ hq, hl2 _ hq, hl3 _ hq]; rfl) | (intro hq; simp [go_sem, hm0 _ hq, hm1 _ hq, hm2 _ hq, hm3 _ hq]; rfl) | (intro hq; simp [go_sem, hc0]; try rfl) | (intro hq; exact quiets.below_call (hD _ (hT2 _ hq)) hq) | (intro hq; exact quiets.below_call (hO _) hq))))
              refine wpQuiet_nil ?_
              intro w6 hb6
              have HB6 : Hid _ := HB2.out _ hb6
              clear hb6 hl0 hl1 hl2 hl3 hT2
              go_wp2
              go_roundw
              case rel => exact ⟨j + 1 + 1, by omega, by go_num, HU.out, HB6.out⟩
              case measure => simp [intOf]; omega
        · obtain rfl : i = 0 := by omega
          simp only [Nat.zero_mul, Nat.add_zero] at hc0 hc1 hc2 hc3
          have hz0 : ((0 : Nat) : Int) = 0 := rfl
          have hno := @atts_no L 0 hlt
          have hun := fun h => @atts_next L 0 hup.out h
          rw [ord_zero, Bool.and_true] at hno hun
          clear hc hts
          generalize att0 L 0 = x at hD hc0 hc1 hc2 hc3 hno hun hdb
          obtain ⟨n0, n1, n2, n3⟩ := x
          have HNO : Hid (∀ h, _) := hno
          have HUN : Hid (∀ h, _) := hun
          have HDB : Hid _ := hdb
          clear hdb hno hun
          dsimp only at hD hc0 hc1 hc2 hc3
          obtain ⟨wb, hwb⟩ : ∃ wb, wr.alloc (.cells #[.string n0, .string n1, .string n2, .string n3] 80) = wb := ⟨_, rfl⟩
          have hl0 : ∀ W, Below wb.heap.size wb W → W.cell? ⟨wr.heap.size, 0, none⟩ = some (.string n0) := fun W h => by subst hwb; exact (box_cells4 _ _ _ _ _ _ _ h).1
          have hl1 : ∀ W, Below wb.heap.size wb W → W.cell? ⟨wr.heap.size, 1, none⟩ = some (.string n1) := fun W h => by subst hwb; exact (box_cells4 _ _ _ _ _ _ _ h).2.1
          have hl2 : ∀ W, Below wb.heap.size wb W → W.cell? ⟨wr.heap.size, 2, none⟩ = some (.string n2) := fun W h => by subst hwb; exact (box_cells4 _ _ _ _ _ _ _ h).2.2.1
          have hl3 : ∀ W, Below wb.heap.size wb W → W.cell? ⟨wr.heap.size, 3, none⟩ = some (.string n3) := fun W h => by subst hwb; exact (box_cells4 _ _ _ _ _ _ _ h).2.2.2
          have hT2 : ∀ W, Below wb.heap.size wb W → scopes.Tabs W := fun W h => by subst hwb; exact hTw _ W h
          have HB2 : Hid (∀ W, Below wb.heap.size wb W → Below w.heap.size w W) := fun W h => by subst hwb; exact hBw _ W h
          clear hTw hBw hal hcell
          cases db
          · have HF : Hid (attsB L = false) := HNO.out HDB.out
            go_wp2_with fail
            try rw [hwb]
            refine quiets.wp_region_below (by kernel_rfl) (by kernel_rfl) ?_
            repeat (go_big_quiet_step ((first | (intro hq; rfl) | (intro hq; simp [go_sem, hl0 _ hq, hl1 _ hq, hl2 _ hq, hl3 _ hq]; rfl) | (intro hq; exact quiets.below_call (hD _ (hT2 _ hq)) hq))))
            refine wpQuiet_nil ?_
            intro w6 hb6
            have HB6 : Hid _ := HB2.out _ hb6
            clear hb6 hl0 hl1 hl2 hl3 hT2
            go_wp2
            go_ret
            exact ⟨ret_bool HF.out.symm, HB6.out⟩
          · have HU : Hid _ := HUN.out HDB.out
            go_wp2_with fail
            try rw [hwb]
            refine quiets.wp_region_below (by kernel_rfl) (by kernel_rfl) ?_
            repeat (go_big_quiet_step ((first | (intro hq; rfl) | (intro hq; simp [go_sem, hl0 _ hq, hl1 _ hq, hl2 _ hq, hl3 _ hq]; rfl) | (intro hq; exact quiets.below_call (hD _ (hT2 _ hq)) hq))))
            refine wpQuiet_nil ?_
            intro w6 hb6
            have HB6 : Hid _ := HB2.out _ hb6
            clear hb6 hl0 hl1 hl2 hl3 hT2
            go_wp2
            go_roundw
            case rel => exact ⟨0 + 1, by omega, by go_num, HU.out, HB6.out⟩
            case measure => simp [intOf]; omega
      · have HF : Hid (attsB L = true) := by
          show _ = _
          exact atts_end fun j hj => hup.out j (by omega)
        go_wp2
        go_ret
        exact ⟨ret_bool HF.out.symm, hbw.out⟩
  · have hl : ¬ (L.length : Int) ≤ 5 := by omega
    have HF : Hid ((decide ((L.length : Int) ≤ 5) && attsB L) = false) := by show _ = _; rw [decide_eq_false hl, Bool.false_and]
    go_enter Tryz.func100, Tryz.ntmps100
    go_wp2
    go_ret
    exact ⟨ret_bool HF.out.symm, Below.refl _ _⟩
end Go.Proofs.YtmiiilamjbhheaaGreatDoor.trees
