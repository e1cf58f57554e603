/-
  What strings.EqualFold answers at "xml".
-/
import Derived.Test.YtmiiilamjbhheaaGreatDoorSpecNode3
import Derived.Test.YtmiiilamjbhheaaGreatDoorBlankSign
import Derived.Lib.LaidU8T
import Derived.Outline
import Derived.WalkMore
import Derived.ScopeJumps
namespace Go.Proofs.YtmiiilamjbhheaaGreatDoor.trees
open Go.ChangeShapes Go.WideShapes Go.ChangeAt Go.RowKit Go.Shelf
open escs (byteAt)
set_option linter.unusedVariables false
/-- The library's table at the letters of xml. -/
structure FoldAt (w : World) : Prop where
  xl : w.cell? ⟨2, 120, none⟩ = some (.int .u16 88)
  xu : w.cell? ⟨2, 88, none⟩ = some (.int .u16 120)
  ml : w.cell? ⟨2, 109, none⟩ = some (.int .u16 77)
  mu : w.cell? ⟨2, 77, none⟩ = some (.int .u16 109)
  ll : w.cell? ⟨2, 108, none⟩ = some (.int .u16 76)
  lu : w.cell? ⟨2, 76, none⟩ = some (.int .u16 108)
theorem FoldAt.below {w w' : World} (h : FoldAt w) (hb : Below w.heap.size w w') : FoldAt w' := by
  have hlt := World.block_lt_of_cell? w _ h.xl
  exact ⟨(hb.cell (p := ⟨2, 120, none⟩) hlt).trans h.xl, (hb.cell (p := ⟨2, 88, none⟩) hlt).trans h.xu, (hb.cell (p := ⟨2, 109, none⟩) hlt).trans h.ml, (hb.cell (p := ⟨2, 77, none⟩) hlt).trans h.mu, (hb.cell (p := ⟨2, 108, none⟩) hlt).trans h.ll, (hb.cell (p := ⟨2, 76, none⟩) hlt).trans h.lu⟩
def foldTab : List Int := (List.range 128).map fun (c : Nat) => if 65 ≤ c ∧ c ≤ 90 then (c : Int) + 32 else if c = 107 then 8490 else if c = 115 then 383 else if 97 ≤ c ∧ c ≤ 122 then (c : Int) - 32 else c
theorem fold_of {w : World} {D : DataW Unit} (eD : D = Lib.tabData .u16 foldTab) (h : Lib.VarReads Tryz.prog w "unicode.asciiFold" D) : FoldAt w := by
  subst eD
  obtain ⟨g, t, cs, fuel, p, hg, hty, hvar, hd⟩ := h
  obtain rfl := Option.some.inj ((show Tryz.prog.globalNamed "unicode.asciiFold" = some 2 by kernel_rfl).symm.trans hg)
  obtain rfl := Option.some.inj ((show (Tryz.prog.globals[2]?).map (·.type) = some 146 by kernel_rfl).symm.trans hty)
  have hcs := Lib.cells_of_tab Tryz.underlying146 Tryz.underlying145 (by kernel_rfl) (by kernel_rfl) hd
  refine ⟨?_, ?_, ?_, ?_, ?_, ?_⟩ <;> (rw [World.var?_cell hg hvar, ← Array.getElem?_toList, hcs]; rfl)
set_option maxRecDepth 100000 in
set_option maxHeartbeats 2000000 in
theorem simple_fold (r v : Nat) (hr : r < 128) (w : World) (hc : w.cell? ⟨2, r, none⟩ = some (.int .u16 v)) (hv : v < 128) : Calls Tryz.prog 110 #[.int .i32 r] w fun e w' => e = .returned (.int .i32 v) ∧ w' = w := by
  have h0 : ¬ (r : Int) < 0 := by omega
  have h1 : ¬ (1114111 : Int) < r := by omega
  have h2 : (r : Int) < 128 := by omega
  go_enter Tryz.func110, Tryz.ntmps110
  go_wp2
  go_ret
  exact ⟨rfl, rfl⟩
theorem or_low (x : Int) (h0 : 0 ≤ x) (h1 : x < 128) : ¬ 128 ≤ bits .or .u8 x 120 ∧ ¬ 128 ≤ bits .or .u8 x 109 ∧ ¬ 128 ≤ bits .or .u8 x 108 := by
  have h : ((List.range 128).all fun (r : Nat) => decide (¬ 128 ≤ bits .or .u8 (r : Int) 120 ∧ ¬ 128 ≤ bits .or .u8 (r : Int) 109 ∧ ¬ 128 ≤ bits .or .u8 (r : Int) 108)) = true := by kernel_rfl
  have := List.all_eq_true.1 h x.toNat (List.mem_range.2 (by omega))
  have e : ((x.toNat : Nat) : Int) = x := by omega
  rw [e] at this
  exact of_decide_eq_true this
theorem or_high (x : Int) (h0 : 128 ≤ x) (h1 : x ≤ 255) : 128 ≤ bits .or .u8 x 120 ∧ 128 ≤ bits .or .u8 x 109 ∧ 128 ≤ bits .or .u8 x 108 := by
  have h : ((List.range 128).all fun (r : Nat) => decide (128 ≤ bits .or .u8 ((r : Int) + 128) 120 ∧ 128 ≤ bits .or .u8 ((r : Int) + 128) 109 ∧ 128 ≤ bits .or .u8 ((r : Int) + 128) 108)) = true := by kernel_rfl
  have := List.all_eq_true.1 h (x - 128).toNat (List.mem_range.2 (by omega))
  have e : (((x - 128).toNat : Nat) : Int) + 128 = x := by omega
  rw [e] at this
  exact of_decide_eq_true this
/-- A scope in which the run jumps at most once: it is walked on from there. -/
theorem wp_scope_once {P : Program} {a : Act} {w : World} {Q : Exit → Act → World → Prop} {c rest : Code} (l : Nat) (hf : findLabel c l = some rest) (first : c.wp P (Exit.jump l (fun a' w' => rest.wp P (Exit.noGoto Q) a' w') Q) a w) : (Code.scope c).wp P Q a w :=
  wp_scope_jumps l (fun a' w' => rest.wp P (Exit.noGoto Q) a' w') (fun _ _ => 0) hf first (fun a w h => wp_mono h (fun e a w h => by cases e <;> first | exact h | exact False.elim h))
theorem idx_at (s : ByteArray) (i : Nat) (x : Int) (h : i < s.size) (hx : byteAt s i = x) (W : World) : (Instr.index 9 (.string s) (.int .i64 i)).run Tryz.prog W = .ok (.int .u8 x) W := by rw [← hx]; exact escs.idx s i h W
set_option maxRecDepth 1000000 in
theorem dec_c0 (w : World) : Calls Tryz.prog 109 #[.string ⟨#[120, 109, 108]⟩] w fun e w' => e = .returned (.tuple #[.int .i32 120, .int .i64 1]) ∧ w' = w := by
  have hc := idx_at ⟨#[120, 109, 108]⟩ 0 120 (by decide) rfl
  go_enter Tryz.func109, Tryz.ntmps109
  go_wp2
  go_ret2
  exact ⟨rfl, rfl⟩
set_option maxRecDepth 1000000 in
theorem dec_c1 (w : World) : Calls Tryz.prog 109 #[.string ⟨#[109, 108]⟩] w fun e w' => e = .returned (.tuple #[.int .i32 109, .int .i64 1]) ∧ w' = w := by
  have hc := idx_at ⟨#[109, 108]⟩ 0 109 (by decide) rfl
  go_enter Tryz.func109, Tryz.ntmps109
  go_wp2
  go_ret2
  exact ⟨rfl, rfl⟩
set_option maxRecDepth 1000000 in
theorem dec_c2 (w : World) : Calls Tryz.prog 109 #[.string ⟨#[108]⟩] w fun e w' => e = .returned (.tuple #[.int .i32 108, .int .i64 1]) ∧ w' = w := by
  have hc := idx_at ⟨#[108]⟩ 0 108 (by decide) rfl
  go_enter Tryz.func109, Tryz.ntmps109
  go_wp2
  go_ret2
  exact ⟨rfl, rfl⟩
theorem idx_c0 (W : World) : (Instr.index 9 (.string ⟨#[120, 109, 108]⟩) (.int .i64 0)).run Tryz.prog W = .ok (.int .u8 120) W := escs.idx ⟨#[120, 109, 108]⟩ 0 (by decide) W
theorem idx_c1 (W : World) : (Instr.index 9 (.string ⟨#[120, 109, 108]⟩) (.int .i64 1)).run Tryz.prog W = .ok (.int .u8 109) W := escs.idx ⟨#[120, 109, 108]⟩ 1 (by decide) W
theorem idx_c2 (W : World) : (Instr.index 9 (.string ⟨#[120, 109, 108]⟩) (.int .i64 2)).run Tryz.prog W = .ok (.int .u8 108) W := escs.idx ⟨#[120, 109, 108]⟩ 2 (by decide) W
def oneX (s : ByteArray) (i : Nat) : Bool := anyB (byteAt s i) (bif i == 0 then 120 else bif i == 1 then 109 else 108) (bif i == 0 then 88 else bif i == 1 then 77 else 76)
theorem xml_ones (s : ByteArray) : xmlAnyB s = (decide (s.size = 3) && (oneX s 0 && (oneX s 1 && oneX s 2))) := rfl
theorem xml_bad {s : ByteArray} {i : Nat} (hi : i < 3) (h : oneX s i = false) : xmlAnyB s = false := by
  rw [xml_ones]
  rcases (show i = 0 ∨ i = 1 ∨ i = 2 by omega) with rfl | rfl | rfl <;> rw [h] <;> simp
theorem xml_short {s : ByteArray} (h : ¬ s.size = 3) : xmlAnyB s = false := by rw [xml_ones, decide_eq_false h]; rfl
theorem xml_good {s : ByteArray} (h : s.size = 3) (h1 : ∀ j, j < 3 → oneX s j = true) : xmlAnyB s = true := by rw [xml_ones, decide_eq_true h, h1 0 (by omega), h1 1 (by omega), h1 2 (by omega)]; rfl
/-- What begins with a byte beyond ASCII is read as a sign beyond it. -/
theorem sign_high (s : ByteArray) (k : Nat) (hk : k < s.size) (hx : 128 ≤ byteAt s k) : 128 ≤ (Utf8.decode s k).1 := by
  have l0 := (s.get! k).toNat_lt
  have l1 := (s.get! (k + 1)).toNat_lt
  have l2 := (s.get! (k + 2)).toNat_lt
  have l3 := (s.get! (k + 3)).toNat_lt
  have hw := dec.decodeN_ways (s.size - k) (s.get! k).toNat (s.get! (k + 1)).toNat (s.get! (k + 2)).toNat (s.get! (k + 3)).toNat l0 l1 l2 l3 (by omega)
  rw [← Lib.decode_at s k] at hw
  unfold byteAt at hx
  rcases hw with e | ⟨c, e, hc, g0⟩ | ⟨c, e, hn, hc, hc1, g0, g1⟩ | ⟨c, e, hn, hc, hc1, hc2, g0, g1, g2⟩ | ⟨c, e, hn, hc, hc1, g0, g1, g2, g3⟩
  all_goals (rw [e]; try show 128 ≤ _; omega)
set_option maxRecDepth 1000000 in
set_option maxHeartbeats 8000000 in
theorem fold_any (s : ByteArray) (b : Bool) (hs : s.size ≤ maxLen) (hb : xmlAnyB s = b) (w : World) (hT : FoldAt w) : Calls Tryz.prog 92 #[.string s, .string ⟨#[120, 109, 108]⟩] w fun e w' => e = .returned (.bool b) ∧ Below w.heap.size w w' := by
  unfold maxLen at hs
  obtain ⟨M, hM⟩ : ∃ M : Nat, min (s.size : Int) 3 = (M : Int) := ⟨min s.size 3, by omega⟩
  have hMs : M ≤ s.size := by omega
  have hM3 : M ≤ 3 := by omega
  have hMe : M = s.size ∨ M = 3 := by omega
  have HT : Hid _ := hT
  have HB : Hid (xmlAnyB s = b) := hb
  clear hT hb
  go_enter Tryz.func92, Tryz.ntmps92
  go_wp2
  refine wp_scope_once 0 rfl ?_
  go_wp2
  go_loopw [5] (fun t wr => ∃ i : Nat, i ≤ M ∧ t = .int .i64 i ∧ wr = w ∧ Hid (∀ j, j < i → oneX s j = true)) (fun t _ => M - (intOf t).toNat)
  case atStart => exact ⟨0, Nat.zero_le _, rfl, rfl, fun j hj => by omega⟩
  case round =>
    obtain ⟨i, hi, rfl, rfl, hup⟩ := hrel
    by_cases hlt : i < M
    · obtain ⟨x, ex⟩ : ∃ x, byteAt s i = x := ⟨_, rfl⟩
      have hx := idx_at s i x (by omega) ex
      obtain ⟨hx1, hx2⟩ := escs.byteAt_range s i
      rw [ex] at hx1 hx2
      have EX : Hid (byteAt s i = x) := ex
      clear ex hM
      by_cases hh : 128 ≤ x
      · have HF : Hid (false = b) := by
          show _ = _
          rw [← HB.out]
          refine (xml_bad (i := i) (by omega) ?_).symm
          unfold oneX anyB
          rw [EX.out]
          rcases (show i = 0 ∨ i = 1 ∨ i = 2 by omega) with rfl | rfl | rfl
          · show ((x == 120) || (x == 88)) = false
            rw [show (x == 120) = false by simp; omega, show (x == 88) = false by simp; omega]; rfl
          · show ((x == 109) || (x == 77)) = false
            rw [show (x == 109) = false by simp; omega, show (x == 77) = false by simp; omega]; rfl
          · show ((x == 108) || (x == 76)) = false
            rw [show (x == 108) = false by simp; omega, show (x == 76) = false by simp; omega]; rfl
        obtain ⟨hor0, hor1, hor2⟩ := or_high x hh hx2
        have hid := sign_high s i (by omega) (by rw [EX.out]; exact hh)
        rcases (show i = 0 ∨ i = 1 ∨ i = 2 by omega) with rfl | rfl | rfl
        · have hx' : ∀ W, (Instr.index 9 (.string s) (.int .i64 0)).run Tryz.prog W = .ok (.int .u8 x) W := hx
          have hc := idx_c0
          have hM0 : (0 : Int) < M := by omega
          have hM1 : (0 : Int) ≤ s.size := by omega
          have ht : (⟨#[120, 109, 108]⟩ : ByteArray).extract 0 3 = ⟨#[120, 109, 108]⟩ := by rfl
          obtain ⟨c, hcd⟩ : ∃ c, (Utf8.decode s 0).1 = c := ⟨_, rfl⟩
          have hnx : ∀ ty, (Instr.next (.pointer (some ⟨wr.heap.size, 0, none⟩)) true ty).run Tryz.prog (wr.iter s 0) = .ok (.tuple #[.bool true, .int .i64 0, .int .i32 (c : Int)]) (wr.iter s (Utf8.decode s 0).2) := fun ty => by
            have h := run_next_any (P := Tryz.prog) wr s 0 ty (by first | omega | (rw [ByteArray.size_extract]; omega))
            
            rw [← hcd]
            simpa using h
          rw [hcd] at hid
          have hc1 : ¬ (c : Int) = 120 := by omega
          have hc2 : ¬ (c : Int) < 120 := by omega
          have hc3 : (120 : Int) < c := by omega
          have hc4 : ¬ (c : Int) < 128 := by omega
          have hc5 : (88 : Int) < c := by omega
          have hc6 : ¬ (120 : Int) = c := by omega
          have HF1 : Hid (∀ W, FoldAt W → _) := fun W h => simple_fold 120 88 (by omega) W h.xl (by omega)
          have HF2 : Hid (∀ W, FoldAt W → _) := fun W h => simple_fold 88 120 (by omega) W h.xu (by omega)
          have HT2 : Hid (FoldAt (wr.iter s (Utf8.decode s 0).2)) := HT.out.below ((Below.refl _ _).alloc (Nat.le_refl _) _)
          clear hx hlt hcd
          go_wp2
          go_step3
          refine ⟨rfl, ?_⟩
          go_wp2
          refine wp_loop_rounds 1 ?_
          rw [rounds_succ]
          go_wp2_with fail
          refine (dec_c0 _).mono ?_
          rintro e w2 ⟨rfl, rfl⟩
          go_wp2_with fail
          refine (HF1.out _ HT2.out).mono ?_
          rintro e w3 ⟨rfl, rfl⟩
          go_wp2_with fail
          refine wp_loop_rounds 2 ?_
          rw [rounds_succ]
          go_wp2_with fail
          refine (HF2.out _ HT2.out).mono ?_
          rintro e w4 ⟨rfl, rfl⟩
          go_wp2_with fail
          rw [rounds_succ]
          go_wp2_with fail
          rw [Exit.noGoto_ret]
          go_ret
          exact ⟨scopes.ret_bool HF.out, (Below.refl _ _).alloc (Nat.le_refl _) _⟩
        · have hx' : ∀ W, (Instr.index 9 (.string s) (.int .i64 1)).run Tryz.prog W = .ok (.int .u8 x) W := hx
          have hc := idx_c1
          have hM0 : (1 : Int) < M := by omega
          have hM1 : (1 : Int) ≤ s.size := by omega
          have ht : (⟨#[120, 109, 108]⟩ : ByteArray).extract 1 3 = ⟨#[109, 108]⟩ := by rfl
          obtain ⟨c, hcd⟩ : ∃ c, (Utf8.decode s 1).1 = c := ⟨_, rfl⟩
          have hnx : ∀ ty, (Instr.next (.pointer (some ⟨wr.heap.size, 0, none⟩)) true ty).run Tryz.prog (wr.iter (s.extract 1 s.size) 0) = .ok (.tuple #[.bool true, .int .i64 0, .int .i32 (c : Int)]) (wr.iter (s.extract 1 s.size) (Utf8.decode s 1).2) := fun ty => by
            have h := run_next_any (P := Tryz.prog) wr (s.extract 1 s.size) 0 ty (by first | omega | (rw [ByteArray.size_extract]; omega))
            rw [Lib.tail_decode s 1 0] at h
            rw [← hcd]
            simpa using h
          rw [hcd] at hid
          have hc1 : ¬ (c : Int) = 109 := by omega
          have hc2 : ¬ (c : Int) < 109 := by omega
          have hc3 : (109 : Int) < c := by omega
          have hc4 : ¬ (c : Int) < 128 := by omega
          have hc5 : (77 : Int) < c := by omega
          have hc6 : ¬ (109 : Int) = c := by omega
          have HF1 : Hid (∀ W, FoldAt W → _) := fun W h => simple_fold 109 77 (by omega) W h.ml (by omega)
          have HF2 : Hid (∀ W, FoldAt W → _) := fun W h => simple_fold 77 109 (by omega) W h.mu (by omega)
          have HT2 : Hid (FoldAt (wr.iter (s.extract 1 s.size) (Utf8.decode s 1).2)) := HT.out.below ((Below.refl _ _).alloc (Nat.le_refl _) _)
          clear hx hlt hcd
          go_wp2
          go_step3
          refine ⟨rfl, ?_⟩
          go_wp2
          refine wp_loop_rounds 1 ?_
          rw [rounds_succ]
          go_wp2_with fail
          refine (dec_c1 _).mono ?_
          rintro e w2 ⟨rfl, rfl⟩
          go_wp2_with fail
          refine (HF1.out _ HT2.out).mono ?_
          rintro e w3 ⟨rfl, rfl⟩
          go_wp2_with fail
          refine wp_loop_rounds 2 ?_
          rw [rounds_succ]
          go_wp2_with fail
          refine (HF2.out _ HT2.out).mono ?_
          rintro e w4 ⟨rfl, rfl⟩
          go_wp2_with fail
          rw [rounds_succ]
          go_wp2_with fail
          rw [Exit.noGoto_ret]
          go_ret
          exact ⟨scopes.ret_bool HF.out, (Below.refl _ _).alloc (Nat.le_refl _) _⟩
        · have hx' : ∀ W, (Instr.index 9 (.string s) (.int .i64 2)).run Tryz.prog W = .ok (.int .u8 x) W := hx
          have hc := idx_c2
          have hM0 : (2 : Int) < M := by omega
          have hM1 : (2 : Int) ≤ s.size := by omega
          have ht : (⟨#[120, 109, 108]⟩ : ByteArray).extract 2 3 = ⟨#[108]⟩ := by rfl
          obtain ⟨c, hcd⟩ : ∃ c, (Utf8.decode s 2).1 = c := ⟨_, rfl⟩
          have hnx : ∀ ty, (Instr.next (.pointer (some ⟨wr.heap.size, 0, none⟩)) true ty).run Tryz.prog (wr.iter (s.extract 2 s.size) 0) = .ok (.tuple #[.bool true, .int .i64 0, .int .i32 (c : Int)]) (wr.iter (s.extract 2 s.size) (Utf8.decode s 2).2) := fun ty => by
            have h := run_next_any (P := Tryz.prog) wr (s.extract 2 s.size) 0 ty (by first | omega | (rw [ByteArray.size_extract]; omega))
            rw [Lib.tail_decode s 2 0] at h
            rw [← hcd]
            simpa using h
          rw [hcd] at hid
          have hc1 : ¬ (c : Int) = 108 := by omega
          have hc2 : ¬ (c : Int) < 108 := by omega
          have hc3 : (108 : Int) < c := by omega
          have hc4 : ¬ (c : Int) < 128 := by omega
          have hc5 : (76 : Int) < c := by omega
          have hc6 : ¬ (108 : Int) = c := by omega
          have HF1 : Hid (∀ W, FoldAt W → _) := fun W h => simple_fold 108 76 (by omega) W h.ll (by omega)
          have HF2 : Hid (∀ W, FoldAt W → _) := fun W h => simple_fold 76 108 (by omega) W h.lu (by omega)
          have HT2 : Hid (FoldAt (wr.iter (s.extract 2 s.size) (Utf8.decode s 2).2)) := HT.out.below ((Below.refl _ _).alloc (Nat.le_refl _) _)
          clear hx hlt hcd
          go_wp2
          go_step3
          refine ⟨rfl, ?_⟩
          go_wp2
          refine wp_loop_rounds 1 ?_
          rw [rounds_succ]
          go_wp2_with fail
          refine (dec_c2 _).mono ?_
          rintro e w2 ⟨rfl, rfl⟩
          go_wp2_with fail
          refine (HF1.out _ HT2.out).mono ?_
          rintro e w3 ⟨rfl, rfl⟩
          go_wp2_with fail
          refine wp_loop_rounds 2 ?_
          rw [rounds_succ]
          go_wp2_with fail
          refine (HF2.out _ HT2.out).mono ?_
          rintro e w4 ⟨rfl, rfl⟩
          go_wp2_with fail
          rw [rounds_succ]
          go_wp2_with fail
          rw [Exit.noGoto_ret]
          go_ret
          exact ⟨scopes.ret_bool HF.out, (Below.refl _ _).alloc (Nat.le_refl _) _⟩
      · rcases (show i = 0 ∨ i = 1 ∨ i = 2 by omega) with rfl | rfl | rfl
        · have hx' : ∀ W, (Instr.index 9 (.string s) (.int .i64 0)).run Tryz.prog W = .ok (.int .u8 x) W := hx
          have hc := idx_c0
          have hor := (or_low x hx1 (by omega)).1
          have hM0 : (0 : Int) < M := by omega
          clear hx hlt
          by_cases e1 : x = 120
          · subst e1
            have HU : Hid (∀ j, j < 0 + 1 → oneX s j = true) := fun j hj => by
              by_cases e : j = 0
              · subst e; unfold oneX; rw [EX.out]; rfl
              · exact hup.out j (by omega)
            go_wp2
            go_roundw
            case rel => exact ⟨0 + 1, by omega, by go_num, trivial, HU.out⟩
            case measure => simp [intOf]; omega
          · by_cases e2 : x = 88
            · subst e2
              have HU : Hid (∀ j, j < 0 + 1 → oneX s j = true) := fun j hj => by
                by_cases e : j = 0
                · subst e; unfold oneX; rw [EX.out]; rfl
                · exact hup.out j (by omega)
              go_wp2
              go_roundw
              case rel => exact ⟨0 + 1, by omega, by go_num, trivial, HU.out⟩
              case measure => simp [intOf]; omega
            · have HF : Hid (false = b) := by
                show _ = _
                rw [← HB.out]
                refine (xml_bad (i := 0) (by omega) ?_).symm
                unfold oneX anyB
                rw [EX.out]
                have z1 : (x == 120) = false := by simpa using e1
                have z2 : (x == 88) = false := by simpa using e2
                show ((x == 120) || (x == 88)) = false
                rw [z1, z2]; rfl
              by_cases hl : x < 120
              · have hn : ¬ (120 : Int) < x := by omega
                go_wp2
                all_goals simp only [Exit.jump]
                all_goals go_ret
                all_goals exact ⟨scopes.ret_bool HF.out, Below.refl _ _⟩
              · go_wp2
                all_goals simp only [Exit.jump]
                all_goals go_ret
                all_goals exact ⟨scopes.ret_bool HF.out, Below.refl _ _⟩
        · have hx' : ∀ W, (Instr.index 9 (.string s) (.int .i64 1)).run Tryz.prog W = .ok (.int .u8 x) W := hx
          have hc := idx_c1
          have hor := (or_low x hx1 (by omega)).2.1
          have hM0 : (1 : Int) < M := by omega
          clear hx hlt
          by_cases e1 : x = 109
          · subst e1
            have HU : Hid (∀ j, j < 1 + 1 → oneX s j = true) := fun j hj => by
              by_cases e : j = 1
              · subst e; unfold oneX; rw [EX.out]; rfl
              · exact hup.out j (by omega)
            go_wp2
            go_roundw
            case rel => exact ⟨1 + 1, by omega, by go_num, trivial, HU.out⟩
            case measure => simp [intOf]; omega
          · by_cases e2 : x = 77
            · subst e2
              have HU : Hid (∀ j, j < 1 + 1 → oneX s j = true) := fun j hj => by
                by_cases e : j = 1
                · subst e; unfold oneX; rw [EX.out]; rfl
                · exact hup.out j (by omega)
              go_wp2
              go_roundw
              case rel => exact ⟨1 + 1, by omega, by go_num, trivial, HU.out⟩
              case measure => simp [intOf]; omega
            · have HF : Hid (false = b) := by
                show _ = _
                rw [← HB.out]
                refine (xml_bad (i := 1) (by omega) ?_).symm
                unfold oneX anyB
                rw [EX.out]
                have z1 : (x == 109) = false := by simpa using e1
                have z2 : (x == 77) = false := by simpa using e2
                show ((x == 109) || (x == 77)) = false
                rw [z1, z2]; rfl
              by_cases hl : x < 109
              · have hn : ¬ (109 : Int) < x := by omega
                go_wp2
                all_goals simp only [Exit.jump]
                all_goals go_ret
                all_goals exact ⟨scopes.ret_bool HF.out, Below.refl _ _⟩
              · go_wp2
                all_goals simp only [Exit.jump]
                all_goals go_ret
                all_goals exact ⟨scopes.ret_bool HF.out, Below.refl _ _⟩
        · have hx' : ∀ W, (Instr.index 9 (.string s) (.int .i64 2)).run Tryz.prog W = .ok (.int .u8 x) W := hx
          have hc := idx_c2
          have hor := (or_low x hx1 (by omega)).2.2
          have hM0 : (2 : Int) < M := by omega
          clear hx hlt
          by_cases e1 : x = 108
          · subst e1
            have HU : Hid (∀ j, j < 2 + 1 → oneX s j = true) := fun j hj => by
              by_cases e : j = 2
              · subst e; unfold oneX; rw [EX.out]; rfl
              · exact hup.out j (by omega)
            go_wp2
            go_roundw
            case rel => exact ⟨2 + 1, by omega, by go_num, trivial, HU.out⟩
            case measure => simp [intOf]; omega
          · by_cases e2 : x = 76
            · subst e2
              have HU : Hid (∀ j, j < 2 + 1 → oneX s j = true) := fun j hj => by
                by_cases e : j = 2
                · subst e; unfold oneX; rw [EX.out]; rfl
                · exact hup.out j (by omega)
              go_wp2
              go_roundw
              case rel => exact ⟨2 + 1, by omega, by go_num, trivial, HU.out⟩
              case measure => simp [intOf]; omega
            · have HF : Hid (false = b) := by
                show _ = _
                rw [← HB.out]
                refine (xml_bad (i := 2) (by omega) ?_).symm
                unfold oneX anyB
                rw [EX.out]
                have z1 : (x == 108) = false := by simpa using e1
                have z2 : (x == 76) = false := by simpa using e2
                show ((x == 108) || (x == 76)) = false
                rw [z1, z2]; rfl
              by_cases hl : x < 108
              · have hn : ¬ (108 : Int) < x := by omega
                go_wp2
                all_goals simp only [Exit.jump]
                all_goals go_ret
                all_goals exact ⟨scopes.ret_bool HF.out, Below.refl _ _⟩
              · go_wp2
                all_goals simp only [Exit.jump]
                all_goals go_ret
                all_goals exact ⟨scopes.ret_bool HF.out, Below.refl _ _⟩
    · obtain rfl : i = M := by omega
      by_cases h3 : s.size = 3
      · have HF : Hid (true = b) := by show _ = _; rw [← HB.out, xml_good h3 (fun j hj => hup.out j (by omega))]
        have h3' : (s.size : Int) = 3 := by omega
        go_wp2
        simp only [Exit.jump]
        go_ret
        exact ⟨scopes.ret_bool (by rw [← HF.out]; try first | exact beq_iff_eq.2 h3' | exact beq_eq_false_iff_ne.2 h3'), Below.refl _ _⟩
      · have HF : Hid (false = b) := by show _ = _; rw [← HB.out, xml_short h3]
        have h3' : ¬ (s.size : Int) = 3 := by omega
        go_wp2
        simp only [Exit.jump]
        go_ret
        exact ⟨scopes.ret_bool (by rw [← HF.out]; try first | exact beq_iff_eq.2 h3' | exact beq_eq_false_iff_ne.2 h3'), Below.refl _ _⟩
theorem fold_xml (s : ByteArray) (b : Bool) (hs : s.size ≤ 1048576) (hb : xmlAnyB s = b) (w : World) (hT : FoldAt w) : Calls Tryz.prog 92 #[.string s, .string ⟨#[120, 109, 108]⟩] w fun e w' => e = .returned (.bool b) ∧ Below w.heap.size w w' := fold_any s b (by unfold maxLen; omega) hb w hT
end Go.Proofs.YtmiiilamjbhheaaGreatDoor.trees
