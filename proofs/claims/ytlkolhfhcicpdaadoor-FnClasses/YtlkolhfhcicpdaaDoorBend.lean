/-
  How the specification bends a text: l1Bend returns some text, whatever comes; but for the cursor nothing that was there turns.
-/
import Derived.Test.YtlkolhfhcicpdaaDoorDraw3
import Derived.Test.YtlkolhfhcicpdaaDoorAppend8
import Derived.Lib.ConvBytes
import Derived.Deep.RegionWith
namespace Go.Proofs.YtlkolhfhcicpdaaDoor.draws
open Go.ChangeShapes Go.WideShapes Go.ChangeAt Go.RowKit
open bytes8
set_option linter.unusedVariables false
set_option linter.unusedSimpArgs false

theorem CurAt.drew {w : World} {cb len cap : Nat} {a : Option Addr} (hc : CurAt w cb a len cap) : CurAt w.drew cb a len cap := hc.stays (Nat.le_refl _) ((Below.refl _ _).drew)
theorem ButFor.drew {cb : Nat} {a w : World} (h : ButFor cb a w) : ButFor cb a w.drew := h.trans ⟨rfl, rfl, rfl, Nat.le_refl _, fun _ _ _ => rfl⟩
theorem row_stays {w w' : World} {cb K n c : Nat} (h : Row8 w K n c) (hb : ButFor cb w w') (hne : K ≠ cb) : Row8 w' K n c := h.stays hb.size (hb.block K h.here hne)
theorem Kept.refl (g : Nat) (w : World) : Kept g w w := ⟨rfl, rfl, rfl, Nat.le_refl _, fun _ _ _ => rfl⟩
theorem Kept.trans {g : Nat} {a b c : World} (h : Kept g a b) (k : Kept g b c) : Kept g a c :=
  ⟨k.os.trans h.os, k.tape.trans h.tape, k.output.trans h.output, Nat.le_trans h.size k.size, fun i hi hn => (k.block i (Nat.lt_of_lt_of_le hi h.size) hn).trans (h.block i hi hn)⟩
theorem Kept.setCell (w : World) (g o : Nat) (v : Value) : Kept g w (w.setCell ⟨g, o, none⟩ v) := ⟨rfl, rfl, rfl, by simp [World.setCell], fun k _ hn => Below.heap_setCell w ⟨g, o, none⟩ v k hn⟩
theorem Kept.alloc (w : World) (g : Nat) (o : Obj) : Kept g w (w.alloc o) := ⟨rfl, rfl, rfl, by show w.heap.size ≤ (w.heap.push _).size; simp, fun k hk _ => Below.heap_alloc w o k hk⟩
theorem Kept.drew (w : World) (g : Nat) : Kept g w w.drew := ⟨rfl, rfl, rfl, Nat.le_refl _, fun _ _ _ => rfl⟩
theorem Kept.but {cb g : Nat} {w0 w w' : World} (h : Kept g w w') (hB : w0.heap.size ≤ g) (hb : ButFor cb w0 w) : ButFor cb w0 w' :=
  ⟨h.os.trans hb.os, h.tape.trans hb.tape, h.output.trans hb.output, Nat.le_trans hb.size h.size, fun k hk hn => (h.block k (Nat.lt_of_lt_of_le hk hb.size) (by omega)).trans (hb.block k hk hn)⟩
theorem Kept.cur {cb g len cap : Nat} {a : Option Addr} {w w' : World} (h : Kept g w w') (hc : CurAt w cb a len cap) (hcb : cb < g) (hrow : 0 < len → ∀ b off, a = some ⟨b, off, none⟩ → b < g) : CurAt w' cb a len cap := by
  have e : ∀ o, w'.cell? ⟨cb, o, none⟩ = w.cell? ⟨cb, o, none⟩ := fun o => World.cell?_of_block (w := w) (h.block cb hc.here (by omega))
  have f : ∀ o, w'.frozen? ⟨cb, o, none⟩ = w.frozen? ⟨cb, o, none⟩ := fun o => World.frozen?_of_block (w := w) (h.block cb hc.here (by omega))
  refine ⟨Nat.lt_of_lt_of_le hc.here h.size, by rw [e]; exact hc.c0, ?_, ?_, by rw [f]; exact hc.f1, by rw [f]; exact hc.f2, hc.row.stays h.size fun h0 b off ha hlt => h.block b hlt (by have := hrow h0 b off ha; omega), hc.apart⟩
  · obtain ⟨i, hi, c⟩ := hc.c1; exact ⟨i, hi, by rw [e]; exact c⟩
  · obtain ⟨h, c⟩ := hc.c2; exact ⟨h, by rw [e]; exact c⟩
theorem cells_set {w : World} {K n c : Nat} (h : Row8 w K n c) (i : Nat) (hi : i < n) (q : Int) : ∀ j, j < n → ∃ z : Int, (w.setCell ⟨K, i, none⟩ (.int .u8 q)).cell? ⟨K, j, none⟩ = some (.int .u8 z) := by
  intro j hj
  by_cases e : i = j
  · subst e
    obtain ⟨z, hz⟩ := h.cells i hi
    exact ⟨q, World.cell?_setCell_same _ _ _ hz⟩
  · obtain ⟨z, hz⟩ := h.cells j hj
    exact ⟨z, by rw [setCell_other _ _ _ _ (off_ne e)]; exact hz⟩
theorem Row8.part {w : World} {g n c m : Nat} (h : Row8 w g n c) (hm : m ≤ n) : Row8 w g m c := ⟨h.here, Nat.le_trans hm h.fits, h.short, fun j hj => h.cells j (by omega), h.spare⟩
theorem Row8.drew {w : World} {g n c : Nat} (h : Row8 w g n c) : Row8 w.drew g n c := h.stays (Nat.le_refl _) rfl
theorem Row8.kept {w w' : World} {g k n c : Nat} (h : Row8 w g n c) (hk : Kept k w w') (hne : g ≠ k) : Row8 w' g n c := h.stays hk.size (hk.block g h.here hne)
theorem row_empty (w : World) : Row8 (w.alloc (.cells #[] 5)) w.heap.size 0 0 := ⟨by simp, Nat.le_refl _, Nat.zero_le _, fun j hj => by omega, fun j hj => by omega⟩
theorem row_bytes (w : World) (s : ByteArray) (hs : s.size ≤ maxLen) : Row8 (Lib.bytesWorld w 5 s) w.heap.size s.size (grownCap w s.size 0 5) := by
  have hge := grownCap_ge w s.size 0 5
  have hsz : (Lib.bytesCells w 5 s).size = grownCap w s.size 0 5 := by
    have hd : s.data.size = s.size := rfl
    simp [Lib.bytesCells]; omega
  refine ⟨by rw [Lib.bytesWorld_size]; omega, hge, grownCap_le_maxLen w s.size 0 5 hs, fun j hj => ⟨_, Lib.bytesWorld_cell w 5 s j hj⟩, fun j hj => ⟨?_, ?_⟩⟩
  · have hj' : j < (Lib.bytesCells w 5 s).size := by omega
    simp [World.cell?, Lib.bytesWorld_at_new, hj']
  · simp [World.frozen?, Lib.bytesWorld_at_new]; omega
theorem bytes_below (w : World) (e : TypeId) (s : ByteArray) : Below w.heap.size w (Lib.bytesWorld w e s) := by
  refine ⟨rfl, rfl, rfl, ?_, fun k hk => Lib.bytesWorld_at_old w e s k hk⟩
  rw [Lib.bytesWorld_size]; omega
theorem bend_end {w w' : World} {cb len cap : Nat} {a : Option Addr} {s : ByteArray} (hs : s.size ≤ 800) (hc : CurAt w' cb a len cap) (hb : ButFor cb w w') : ∃ s' : ByteArray, Ending.returned (.string s) = .returned (.string s') ∧ s'.size ≤ 800 ∧ CurAt w' cb a len cap ∧ ButFor cb w w' := ⟨s, rfl, hs, hc, hb⟩

def bendL : List ByteArray := [⟨#[60]⟩, ⟨#[62]⟩, ⟨#[38]⟩, ⟨#[34]⟩, ⟨#[39]⟩, ⟨#[47]⟩, ⟨#[32]⟩, ⟨#[61]⟩, ⟨#[10]⟩, ⟨#[93]⟩, ⟨#[120]⟩, ⟨#[255]⟩, ⟨#[45]⟩]
theorem bendL_size : ∀ s ∈ bendL, s.size ≤ 4 := by
  intro s hs
  simp only [bendL, List.mem_cons, List.mem_nil_iff, or_false] at hs
  rcases hs with rfl | rfl | rfl | rfl | rfl | rfl | rfl | rfl | rfl | rfl | rfl | rfl | rfl <;> decide
theorem bend_list (w : World) (cb len cap : Nat) (a : Option Addr) (hc : CurAt w cb a len cap) :
    Calls Tryd.prog 29 #[.pointer (some ⟨cb, 0, none⟩), .slice (some ⟨w.heap.size, 0, none⟩) 13 13] (w.alloc (.cells #[.string ⟨#[60]⟩, .string ⟨#[62]⟩, .string ⟨#[38]⟩, .string ⟨#[34]⟩, .string ⟨#[39]⟩, .string ⟨#[47]⟩, .string ⟨#[32]⟩, .string ⟨#[61]⟩, .string ⟨#[10]⟩, .string ⟨#[93]⟩, .string ⟨#[120]⟩, .string ⟨#[255]⟩, .string ⟨#[45]⟩] 9)) fun e w' => ∃ s, s ∈ bendL ∧ e = .returned (.string s) ∧ CurAt w' cb a len cap ∧ ButFor cb w w' :=
  str_new w cb len cap 13 13 a bendL _ 9 rfl rfl (by decide) (by decide) hc
set_option maxRecDepth 100000 in
set_option maxHeartbeats 2000000 in
theorem bend_core (w W : World) (cb len cap K n c : Nat) (a : Option Addr) (s : ByteArray) (hn : n ≤ 700) (hcv : (convert 9 22 (.string s)).run Tryd.prog w = .ok (.slice (some ⟨K, 0, none⟩) n c) W)
    (HR : Hid (Row8 W K n c)) (HC : Hid (CurAt W cb a len cap)) (HB : Hid (ButFor cb w W)) (hcb : Hid (cb < K)) (hwK : Hid (w.heap.size ≤ K)) (hrow : Hid (0 < len → ∀ b off, a = some ⟨b, off, none⟩ → b < K)) :
    Calls Tryd.prog 27 #[.pointer (some ⟨cb, 0, none⟩), .string s] w fun e w' => ∃ s' : ByteArray, e = .returned (.string s') ∧ s'.size ≤ 800 ∧ CurAt w' cb a len cap ∧ ButFor cb w w' := by
  have hne : Hid (K ≠ cb) := by have := hcb.out; show K ≠ cb; omega
  go_enter Tryd.func27, Tryd.ntmps27
  go_wp2_with fail
  refine (below_any _ _ _ _ _ _ (by omega) HC.out).mono ?_
  rintro e w2 ⟨x, rfl, hx0, hx1, hc2, hb2⟩
  have HC2 : Hid _ := hc2
  have HB2 : Hid _ := HB.out.trans hb2
  have HR2 : Hid _ := row_stays HR.out hb2 hne.out
  clear hc2 hb2 HC HB HR hcv hx1
  by_cases x0 : x = 0
  · subst x0
    by_cases hn0 : n = 0
    · subst hn0
      go_wp2
      refine upon_of_run (conv_run _ _ _ _ HR2.out.cells) ?_
      go_wp2
      go_ret
      exact bend_end (by rw [strAt_size]; omega) HC2.out HB2.out
    · have hn1 : (0 : Int) < n := by omega
      go_wp2_with fail
      refine (below_any _ _ _ _ _ _ (by omega) HC2.out).mono ?_
      rintro e w3 ⟨y, rfl, hy0, hy1, hc3, hb3⟩
      obtain ⟨i, rfl⟩ : ∃ i : Nat, y = i := ⟨y.toNat, by omega⟩
      have hi : i < n := by omega
      have hi' : (i : Int) < n := by omega
      have HC3 : Hid _ := hc3
      have HB3 : Hid _ := HB2.out.trans hb3
      have HR3 : Hid _ := row_stays HR2.out hb3 hne.out
      clear hc3 hb3 hy1
      obtain ⟨z, hz⟩ := HR3.out.cells i hi
      have hKlt := HR3.out.here
      go_wp2_with fail
      go_region_with (go_at_call 26; refine (below_any _ _ _ _ _ _ (by decide) HC3.out.drew).mono ?_; rintro e w4 ⟨y4, rfl, hy40, hy41, hc4, hb4⟩; have hz4 : w4.cell? ⟨K, i, none⟩ = some (.int .u8 z) := (hb4.cell (p := ⟨K, i, none⟩) hKlt hne.out).trans hz; have hf4 : w4.frozen? ⟨K, i, none⟩ = false := (hb4.frozen (p := ⟨K, i, none⟩) hKlt hne.out).trans ((HR3.out.spare i (Nat.lt_of_lt_of_le hi HR3.out.fits)).2); have HC4 : Hid _ := hc4; have HB4 : Hid _ := HB3.out.drew.trans hb4; have HR4 : Hid _ := row_stays (HR3.out.stays (w' := w3.drew) (Nat.le_refl _) rfl) hb4 hne.out; clear hc4 hb4 hy41)
      all_goals
        go_wp2
        refine upon_of_run (conv_run _ _ _ _ (cells_set HR4.out i hi _)) ?_
        go_wp2
        go_ret
        exact bend_end (by rw [strAt_size]; omega) (Kept.cur (Kept.setCell _ _ _ _) HC4.out hcb.out hrow.out) (Kept.but (Kept.setCell _ _ _ _) hwK.out HB4.out)
  · have e0 : (x == 0) = false := by simpa using x0
    by_cases x1 : x = 1
    · subst x1
      by_cases hn0 : n = 0
      · subst hn0
        go_wp2
        refine upon_of_run (conv_run _ _ _ _ HR2.out.cells) ?_
        go_wp2
        go_ret
        exact bend_end (by rw [strAt_size]; omega) HC2.out HB2.out
      · have hn1 : (0 : Int) < n := by omega
        go_wp2_with fail
        refine (below_any _ _ _ _ _ _ (by omega) HC2.out).mono ?_
        rintro e w3 ⟨y, rfl, hy0, hy1, hc3, hb3⟩
        obtain ⟨i, rfl⟩ : ∃ i : Nat, y = i := ⟨y.toNat, by omega⟩
        have hi : i < n := by omega
        have hi' : (i : Int) < n := by omega
        have HC3 : Hid _ := hc3
        have HB3 : Hid _ := HB2.out.trans hb3
        have HR3 : Hid _ := row_stays HR2.out hb3 hne.out
        clear hc3 hb3 hy1
        have hnc := HR3.out.fits
        have hc63 := HR3.out.short
        unfold maxLen at hc63
        have hwr : IntKind.i64.wrap ((i : Int) + 1) = (i : Int) + 1 := by rw [IntKind.wrap_i64]; omega
        have hp0 : (0 : Int) ≤ (i : Int) + 1 := by omega
        have hp1 : (i : Int) + 1 ≤ (n : Int) := by omega
        have hp2 : ((i : Int) + 1).toNat = i + 1 := by omega
        have hic : i ≤ c := by omega
        have hwk : Hid (w.heap.size ≤ w3.drew.heap.size) := HB3.out.size
        by_cases hci : c = i + 1
        · obtain rfl : n = i + 1 := by omega
          subst hci
          have hq : (i : Int) ≤ (i : Int) + 1 := by omega
          have HS : Hid (Src Tryd.prog 1 22 (.slice (some ⟨K, 0, none⟩) 0 0) 0 ((numsAt w3.drew K 0 0).map (Value.int .u8)) w3.drew) := src_piece w3.drew K 0 0 0 (fun j hj => by omega)
          go_wp2_with fail
          go_region_law (refine step_append8 rfl (.tmp 46) (.tmp 50) 22 rfl K i (i + 1) w.heap.size (.slice (some ⟨K, 0, none⟩) 0 0) 0 _ (by simp [Act.eval, Act.put]) (by simp [Act.eval, Act.put]) hwK.out hwk.out (Row8.drew (Row8.part HR3.out (Nat.le_of_lt hi))) HS.out (nums_u8 _) (by omega) ?_; intro g' c' w4 hr4 hB4 hk4)
          have HR4 : Hid _ := hr4
          have HC4 : Hid _ := Kept.cur hk4 HC3.out.drew hcb.out hrow.out
          have HB4 : Hid _ := Kept.but hk4 hwK.out HB3.out.drew
          clear hr4 hk4
          go_wp2
          refine upon_of_run (conv_run _ _ _ _ HR4.out.cells) ?_
          go_wp2
          go_ret
          exact bend_end (by rw [strAt_size]; omega) HC4.out HB4.out
        · have HS : Hid (Src Tryd.prog 1 22 (.slice (some ⟨K, i + 1, none⟩) (n - (i + 1)) (c - (i + 1))) (n - (i + 1)) ((numsAt w3.drew K (i + 1) (n - (i + 1))).map (Value.int .u8)) w3.drew) := src_piece w3.drew K (i + 1) (n - (i + 1)) (c - (i + 1)) (fun j hj => HR3.out.cells (i + 1 + j) (by omega))
          go_wp2_with fail
          go_region_law (refine step_append8 rfl (.tmp 46) (.tmp 50) 22 rfl K i c w.heap.size (.slice (some ⟨K, i + 1, none⟩) (n - (i + 1)) (c - (i + 1))) (n - (i + 1)) _ (by simp [Act.eval, Act.put]) (by simp [Act.eval, Act.put]) hwK.out hwk.out (Row8.drew (Row8.part HR3.out (Nat.le_of_lt hi))) HS.out (nums_u8 _) (by omega) ?_; intro g' c' w4 hr4 hB4 hk4)
          have HR4 : Hid _ := hr4
          have HC4 : Hid _ := Kept.cur hk4 HC3.out.drew hcb.out hrow.out
          have HB4 : Hid _ := Kept.but hk4 hwK.out HB3.out.drew
          clear hr4 hk4
          go_wp2
          refine upon_of_run (conv_run _ _ _ _ HR4.out.cells) ?_
          go_wp2
          go_ret
          exact bend_end (by rw [strAt_size]; omega) HC4.out HB4.out
    · have e1 : (x == 1) = false := by simpa using x1
      by_cases x2 : x = 2
      · subst x2
        go_wp2_with fail
        refine (below_any _ _ _ _ _ _ (by omega) HC2.out).mono ?_
        rintro e w3 ⟨y, rfl, hy0, hy1, hc3, hb3⟩
        obtain ⟨i, rfl⟩ : ∃ i : Nat, y = i := ⟨y.toNat, by omega⟩
        have hi : i ≤ n := by omega
        have hi' : (i : Int) ≤ n := by omega
        have HC3 : Hid _ := hc3
        have HB3 : Hid _ := HB2.out.trans hb3
        have HR3 : Hid _ := row_stays HR2.out hb3 hne.out
        clear hc3 hb3 hy1
        go_wp2_with fail
        refine (bend_list _ _ _ _ _ HC3.out).mono ?_
        rintro e w4 ⟨u, hu, rfl, hc4, hb4⟩
        have hus := bendL_size u hu
        have HC4 : Hid _ := hc4
        have HB4 : Hid _ := HB3.out.trans hb4
        have HR4 : Hid _ := row_stays HR3.out hb4 hne.out
        clear hc4 hb4 hu
        have hnc := HR4.out.fits
        have hc63 := HR4.out.short
        unfold maxLen at hc63
        have hic : i ≤ c := by omega
        have hKl := HR4.out.here
        have hcbl := hcb.out
        have hw4 : Hid (w.heap.size ≤ w4.heap.size) := HB4.out.size
        have hBw : Hid (w4.heap.size ≤ (w4.drew.alloc (.cells #[] 5)).heap.size) := (Kept.alloc w4.drew 0 _).size
        have HRK : Hid (Row8 (w4.drew.alloc (.cells #[] 5)) K n c) := Row8.kept (Row8.drew HR4.out) (Kept.alloc w4.drew w4.heap.size _) (by omega)
        have hw4' := hw4.out
        by_cases hci : c = i
        · obtain rfl : i = n := by omega
          obtain rfl : i = c := hci.symm
          have HSA : Hid (Src Tryd.prog 1 22 (.slice (some ⟨K, 0, none⟩) i i) i ((numsAt (w4.drew.alloc (.cells #[] 5)) K 0 i).map (Value.int .u8)) (w4.drew.alloc (.cells #[] 5))) := src_piece _ K 0 i i (fun j hj => by rw [Nat.zero_add]; exact HRK.out.cells j (by omega))
          go_wp2_with fail
          go_region_law (first
            | (refine step_append8 rfl (.tmp 62) (.tmp 65) 22 rfl w4.heap.size 0 0 w4.heap.size (.slice (some ⟨K, 0, none⟩) i i) i _ (by simp [Act.eval, Act.put]) (by simp [Act.eval, Act.put]) (Nat.le_refl _) hBw.out (row_empty w4.drew) HSA.out (nums_u8 _) (by omega) ?_
               intro g1 c1 w5 hr5 hB5 hk5
               have HR5 : Hid (Row8 w5 g1 (0 + i) c1) := hr5
               have HK5 : Hid (Kept w4.heap.size (w4.drew.alloc (.cells #[] 5)) w5) := hk5
               have HG1 : Hid (w4.heap.size ≤ g1) := hB5
               clear hr5 hk5 hB5)
            | (refine step_append8 rfl (.tmp 66) (.tmp 67) 9 rfl g1 (0 + i) c1 w4.heap.size (.string u) u.size _ (by simp [Act.eval, Act.put]) (by simp [Act.eval, Act.put]) HG1.out (Nat.le_trans hBw.out HK5.out.size) HR5.out (Src.ofString w5 Tryd.underlying9 u) (bytes_u8 u) (by omega) ?_
               intro g2 c2 w6 hr6 hB6 hk6
               have HR6 : Hid (Row8 w6 g2 (0 + i + u.size) c2) := hr6
               have HK6 : Hid (Kept g1 w5 w6) := hk6
               have HG2 : Hid (w4.heap.size ≤ g2) := hB6
               clear hr6 hk6 hB6)
            | (refine step_append8 rfl (.tmp 68) (.tmp 71) 22 rfl g2 (0 + i + u.size) c2 w4.heap.size (.slice (some ⟨K, 0, none⟩) 0 0) 0 _ (by simp [Act.eval, Act.put]) (by simp [Act.eval, Act.put]) HG2.out (Nat.le_trans (Nat.le_trans hBw.out HK5.out.size) HK6.out.size) HR6.out (src_piece w6 K 0 0 0 (fun j hj => (Row8.kept (Row8.kept HRK.out HK5.out (by omega)) HK6.out (by have := HG1.out; omega)).cells _ (by omega))) (nums_u8 _) (by omega) ?_
               intro g3 c3 w7 hr7 hB7 hk7
               have HR7 : Hid (Row8 w7 g3 (i + u.size) c3) := by rw [Nat.zero_add, Nat.add_zero] at hr7; exact hr7
               have HK7 : Hid (Kept g2 w6 w7) := hk7
               clear hr7 hk7 hB7))
          all_goals
            go_wp2
            refine upon_of_run (conv_run _ _ _ _ HR7.out.cells) ?_
            go_wp2
            go_ret
            exact bend_end (by rw [strAt_size]; omega)
              (Kept.cur HK7.out (Kept.cur HK6.out (Kept.cur HK5.out (CurAt.alloc HC4.out.drew _) (by omega) (fun h b o e => by have := hrow.out h b o e; omega)) (by have := HG1.out; omega) (fun h b o e => by have := hrow.out h b o e; have := HG1.out; omega)) (by have := HG2.out; omega) (fun h b o e => by have := hrow.out h b o e; have := HG2.out; omega))
              (Kept.but HK7.out (by have := HG2.out; omega) (Kept.but HK6.out (by have := HG1.out; omega) (Kept.but HK5.out hw4.out (ButFor.alloc HB4.out.drew _))))
        · have hcin : ¬ c = i := hci
          have HSA : Hid (Src Tryd.prog 1 22 (.slice (some ⟨K, 0, none⟩) i c) i ((numsAt (w4.drew.alloc (.cells #[] 5)) K 0 i).map (Value.int .u8)) (w4.drew.alloc (.cells #[] 5))) := src_piece _ K 0 i c (fun j hj => by rw [Nat.zero_add]; exact HRK.out.cells j (by omega))
          go_wp2_with fail
          go_region_law (first
            | (refine step_append8 rfl (.tmp 62) (.tmp 65) 22 rfl w4.heap.size 0 0 w4.heap.size (.slice (some ⟨K, 0, none⟩) i c) i _ (by simp [Act.eval, Act.put]) (by simp [Act.eval, Act.put]) (Nat.le_refl _) hBw.out (row_empty w4.drew) HSA.out (nums_u8 _) (by omega) ?_
               intro g1 c1 w5 hr5 hB5 hk5
               have HR5 : Hid (Row8 w5 g1 (0 + i) c1) := hr5
               have HK5 : Hid (Kept w4.heap.size (w4.drew.alloc (.cells #[] 5)) w5) := hk5
               have HG1 : Hid (w4.heap.size ≤ g1) := hB5
               clear hr5 hk5 hB5)
            | (refine step_append8 rfl (.tmp 66) (.tmp 67) 9 rfl g1 (0 + i) c1 w4.heap.size (.string u) u.size _ (by simp [Act.eval, Act.put]) (by simp [Act.eval, Act.put]) HG1.out (Nat.le_trans hBw.out HK5.out.size) HR5.out (Src.ofString w5 Tryd.underlying9 u) (bytes_u8 u) (by omega) ?_
               intro g2 c2 w6 hr6 hB6 hk6
               have HR6 : Hid (Row8 w6 g2 (0 + i + u.size) c2) := hr6
               have HK6 : Hid (Kept g1 w5 w6) := hk6
               have HG2 : Hid (w4.heap.size ≤ g2) := hB6
               clear hr6 hk6 hB6)
            | (refine step_append8 rfl (.tmp 68) (.tmp 71) 22 rfl g2 (0 + i + u.size) c2 w4.heap.size (.slice (some ⟨K, i, none⟩) (n - i) (c - i)) (n - i) _ (by simp [Act.eval, Act.put]) (by simp [Act.eval, Act.put]) HG2.out (Nat.le_trans (Nat.le_trans hBw.out HK5.out.size) HK6.out.size) HR6.out (src_piece w6 K i (n - i) (c - i) (fun j hj => (Row8.kept (Row8.kept HRK.out HK5.out (by omega)) HK6.out (by have := HG1.out; omega)).cells _ (by omega))) (nums_u8 _) (by omega) ?_
               intro g3 c3 w7 hr7 hB7 hk7
               have HR7 : Hid (Row8 w7 g3 (i + u.size + (n - i)) c3) := by rw [Nat.zero_add] at hr7; exact hr7
               have HK7 : Hid (Kept g2 w6 w7) := hk7
               clear hr7 hk7 hB7))
          all_goals
            go_wp2
            refine upon_of_run (conv_run _ _ _ _ HR7.out.cells) ?_
            go_wp2
            go_ret
            exact bend_end (by rw [strAt_size]; omega)
              (Kept.cur HK7.out (Kept.cur HK6.out (Kept.cur HK5.out (CurAt.alloc HC4.out.drew _) (by omega) (fun h b o e => by have := hrow.out h b o e; omega)) (by have := HG1.out; omega) (fun h b o e => by have := hrow.out h b o e; have := HG1.out; omega)) (by have := HG2.out; omega) (fun h b o e => by have := hrow.out h b o e; have := HG2.out; omega))
              (Kept.but HK7.out (by have := HG2.out; omega) (Kept.but HK6.out (by have := HG1.out; omega) (Kept.but HK5.out hw4.out (ButFor.alloc HB4.out.drew _))))
      · have e2 : (x == 2) = false := by simpa using x2
        go_wp2
        refine upon_of_run (conv_run _ _ _ _ HR2.out.cells) ?_
        go_wp2
        go_ret
        exact bend_end (by rw [strAt_size]; omega) HC2.out HB2.out
/-- l1Bend returns some text. -/
theorem bend_any (w : World) (cb len cap : Nat) (a : Option Addr) (s : ByteArray) (hs : s.size ≤ 700) (hc : CurAt w cb a len cap) :
    Calls Tryd.prog 27 #[.pointer (some ⟨cb, 0, none⟩), .string s] w fun e w' => ∃ s' : ByteArray, e = .returned (.string s') ∧ s'.size ≤ 800 ∧ CurAt w' cb a len cap ∧ ButFor cb w w' :=
  bend_core w _ cb len cap w.heap.size s.size _ a s hs (Lib.run_convert_string_bytes w 9 22 5 s Tryd.underlying9 Tryd.underlying22 Tryd.underlying5) (row_bytes w s (by unfold maxLen; omega)) (hc.stays (Nat.le_refl _) (bytes_below _ _ _)) (ButFor.of_below (bytes_below _ _ _)) hc.here (Nat.le_refl _)
    (fun h0 b off ha => by
      obtain ⟨b', off', ha', hb', _⟩ := hc.row.row h0
      rw [ha] at ha'
      simp at ha'
      omega)
end Go.Proofs.YtlkolhfhcicpdaaDoor.draws
