/-
  What the specification's l6Told answers.
-/
import Derived.Test.YtekbpekfomblbaaGreatDoorCutsP
namespace Go.Proofs.YtekbpekfomblbaaGreatDoor.cuts
open Go.ChangeShapes Go.WideShapes Go.ChangeAt Go.RowKit
open names (splitT nameE)
open marks (blanksE)
set_option linter.unusedVariables false
def qEnd : ByteArray := ⟨#[63, 62]⟩
/-- What is told there: a name, a text, and the place behind. -/
def toldE (s : ByteArray) (a : Nat) : Option (ByteArray × ByteArray × Nat) :=
  if (splitT (s.extract (a + 2) (nameE s (a + 2)))).2.2 = true then
    if isAt s ⟨#[63, 62]⟩ (nameE s (a + 2)) = true then some (s.extract (a + 2) (nameE s (a + 2)), ⟨#[]⟩, nameE s (a + 2) + 2)
    else if blanksE s (nameE s (a + 2)) = nameE s (a + 2) then none
    else match toI s ⟨#[63, 62]⟩ (blanksE s (nameE s (a + 2))) with
      | none => none
      | some j => some (s.extract (a + 2) (nameE s (a + 2)), s.extract (blanksE s (nameE s (a + 2))) j, j + 2)
  else none
theorem nameR_no {s : ByteArray} {k : Nat} (h : ¬ (splitT (s.extract k (nameE s k))).2.2 = true) : nameR s k = (⟨#[]⟩, -1) := if_neg h
theorem nameR_yes {s : ByteArray} {k : Nat} (h : (splitT (s.extract k (nameE s k))).2.2 = true) : nameR s k = (s.extract k (nameE s k), (nameE s k : Int)) := if_pos h
theorem ends_le (s : ByteArray) : ∀ f k, k ≤ s.size → names.ends s f k ≤ s.size
  | 0, k, h => by rw [names.ends]; exact h
  | f + 1, k, h => by
    by_cases hg : k < s.size ∧ Utf8.decode s k ≠ (65533, 1) ∧ names.nameB ((Utf8.decode s k).1 : Int) = true
    · rw [names.ends, if_pos hg]; exact ends_le s f _ (dec.back s k hg.1 hg.2.1).1
    · rw [names.ends_stop s (f + 1) k hg]; exact h
theorem box_kept {w w' : World} {o : Obj} (hb : Below (w.alloc o).heap.size (w.alloc o) w') : w'.heap[w.heap.size]? = some o := (hb.block w.heap.size (by simp)).trans (heap_alloc_new w _)
theorem box_under {w w' : World} {o : Obj} (hb : Below (w.alloc o).heap.size (w.alloc o) w') : Below w.heap.size w w' := ((Below.refl _ _).alloc (Nat.le_refl _) o).trans (hb.mono (by simp))
theorem lt_heap {w : World} {b : Nat} {o : Obj} (h : w.heap[b]? = some o) : b < w.heap.size := (Array.getElem?_eq_some_iff.1 h).1
/-- A mark without Raws. -/
def mk5 (k : Int) (n x : ByteArray) (b : Bool) : Value := .agg #[.int .i64 k, .string n, .slice none 0 0, .bool b, .string x]
def bad5 (e : Ending) : Prop := ∃ k n x b, e = .returned (.tuple #[mk5 k n x b, .int .i64 (-1)])
theorem box5 {w : World} {b : Nat} {t : TypeId} {c0 c1 c2 c3 c4 : Value} (h : w.heap[b]? = some (.cells #[c0, c1, c2, c3, c4] t (0, 0))) :
    (w.cell? ⟨b, 0, none⟩ = some c0 ∧ w.cell? ⟨b, 1, none⟩ = some c1 ∧ w.cell? ⟨b, 2, none⟩ = some c2 ∧ w.cell? ⟨b, 3, none⟩ = some c3 ∧ w.cell? ⟨b, 4, none⟩ = some c4) ∧
    w.frozen? ⟨b, 0, none⟩ = false ∧ w.frozen? ⟨b, 1, none⟩ = false ∧ w.frozen? ⟨b, 2, none⟩ = false ∧ w.frozen? ⟨b, 3, none⟩ = false ∧ w.frozen? ⟨b, 4, none⟩ = false := by
  simp [World.cell?, World.frozen?, h]
/-- What l6Told answers. -/
def toldOk : Option (ByteArray × ByteArray × Nat) → Ending → Prop
  | none, e => bad5 e
  | some (n, x, j), e => e = .returned (.tuple #[mk5 5 n x false, .int .i64 (j : Int)])
theorem bad_of {r : Option (ByteArray × ByteArray × Nat)} {e : Ending} (h : r = none) (hb : bad5 e) : toldOk r e := by subst h; exact hb
theorem good_of {r : Option (ByteArray × ByteArray × Nat)} {n x : ByteArray} {j : Nat} {e : Ending} (h : r = some (n, x, j)) (hb : e = .returned (.tuple #[mk5 5 n x false, .int .i64 (j : Int)])) : toldOk r e := by subst h; exact hb
theorem below5 {w W : World} {u0 u1 u2 u3 u4 : Value} (h : Below w.heap.size w W) : Below w.heap.size w (((((W.setCell ⟨w.heap.size, 0, none⟩ u0).setCell ⟨w.heap.size, 1, none⟩ u1).setCell ⟨w.heap.size, 2, none⟩ u2).setCell ⟨w.heap.size, 3, none⟩ u3).setCell ⟨w.heap.size, 4, none⟩ u4) :=
  ((((h.setCell (p := ⟨w.heap.size, 0, none⟩) (Nat.le_refl _) _).setCell (p := ⟨w.heap.size, 1, none⟩) (Nat.le_refl _) _).setCell (p := ⟨w.heap.size, 2, none⟩) (Nat.le_refl _) _).setCell (p := ⟨w.heap.size, 3, none⟩) (Nat.le_refl _) _).setCell (p := ⟨w.heap.size, 4, none⟩) (Nat.le_refl _) _
set_option maxRecDepth 100000 in
set_option maxHeartbeats 2000000 in
theorem spec_told (s : ByteArray) (a : Nat) (w : World) (hs : s.size ≤ 1048576) (ha : a + 2 ≤ s.size) : Calls Tryz.prog 44 #[.string s, .int .i64 a] w fun e w' => toldOk (toldE s a) e ∧ Below w.heap.size w w' := by
  have H1 : Hid (∀ W, Calls Tryz.prog 45 #[.string s, .int .i64 ((a : Int) + 2)] W fun e w' => e = .returned (.tuple #[.string (nameR s (a + 2)).1, .int .i64 (nameR s (a + 2)).2]) ∧ Below W.heap.size W w') := fun W => spec_name s (a + 2) W hs ha
  have hkl : nameE s (a + 2) ≤ s.size := ends_le s _ _ ha
  obtain ⟨R, hR⟩ : ∃ R, toldE s a = R := ⟨_, rfl⟩
  rw [hR]
  have HE : Hid (toldE s a = R) := hR
  clear hR
  unfold toldE at HE
  by_cases hok : (splitT (s.extract (a + 2) (nameE s (a + 2)))).2.2 = true
  · rw [nameR_yes hok] at H1
    rw [if_pos hok] at HE
    obtain ⟨n, hn⟩ : ∃ n, s.extract (a + 2) (nameE s (a + 2)) = n := ⟨_, rfl⟩
    obtain ⟨k, hk⟩ : ∃ k, nameE s (a + 2) = k := ⟨_, rfl⟩
    rw [hn] at H1 HE
    rw [hk] at H1 HE hkl
    clear hn hk hok
    have H2 : Hid (∀ W, _) := fun W => spec_is s ⟨#[63, 62]⟩ k W hs (by decide) hkl
    cases hq : isAt s ⟨#[63, 62]⟩ k
    · rw [hq] at H2 HE
      rw [if_neg (by decide)] at HE
      have H3 : Hid (∀ W, _) := fun W => marks.spec_blanks_in s k W (by unfold maxLen; omega) hkl
      have hbl : blanksE s k ≤ s.size := marks.blE_le s _ _ hkl
      obtain ⟨f, hf⟩ : ∃ f, blanksE s k = f := ⟨_, rfl⟩
      rw [hf] at H3 HE hbl
      clear hf hq
      by_cases hfk : f = k
      · subst hfk
        rw [if_pos rfl] at HE
        go_enter Tryz.func44, Tryz.ntmps44
        go_wp2_with fail
        refine Calls.mono (H1.out _) ?_
        rintro e w1 ⟨rfl, hb⟩
        have HB1 : Hid (Below w.heap.size w w1) := box_under hb
        have hX1 := box_kept hb
        have hlt := lt_heap hX1
        have HL : Hid (w.heap.size ≤ w1.heap.size) := Nat.le_of_lt hlt
        have hX : ∀ o, _ := fun o => box5 ((Below.heap_alloc w1 o w.heap.size (lt_heap hX1)).trans hX1)
        obtain ⟨⟨oc0, oc1, oc2, oc3, oc4⟩, of0, of1, of2, of3, of4⟩ := hX (.cells #[.int .i64 5, .string n, .slice none 0 0, .bool false, .string ⟨#[]⟩] 29)
        clear hb hX hX1 hlt
        go_wp2_with (first
          | (go_at_call 42; refine Calls.mono (H2.out _) ?_; rintro e w2 ⟨rfl, hw2⟩; have hw3 := hw2.symm; clear hw2; subst hw3)
          | (go_at_call 11; refine Calls.mono (H3.out _) ?_; rintro e w2 ⟨rfl, hw2⟩; have hw3 := hw2.symm; clear hw2; subst hw3))
        refine bodyPost_ret (by simp [results, Tryz.results44, go_sem, oc0, oc1, oc2, oc3, oc4]; try rfl) rfl ?_
        exact ⟨bad_of HE.out.symm ⟨_, _, _, _, rfl⟩, below5 (HB1.out.alloc HB1.out.size _)⟩
      · rw [if_neg hfk] at HE
        have hfk' : ¬ (f : Int) = k := by omega
        have H4 : Hid (∀ W, _) := fun W => spec_to s ⟨#[63, 62]⟩ f W hs (by decide) hbl
        cases hj : toI s ⟨#[63, 62]⟩ f with
        | none =>
          rw [toR_none hj] at H4
          rw [hj] at HE
          clear hj
          go_enter Tryz.func44, Tryz.ntmps44
          go_wp2_with fail
          refine Calls.mono (H1.out _) ?_
          rintro e w1 ⟨rfl, hb⟩
          have HB1 : Hid (Below w.heap.size w w1) := box_under hb
          have hX1 := box_kept hb
          have hlt := lt_heap hX1
          have HL : Hid (w.heap.size ≤ w1.heap.size) := Nat.le_of_lt hlt
          have hX : ∀ o, _ := fun o => box5 ((Below.heap_alloc w1 o w.heap.size (lt_heap hX1)).trans hX1)
          obtain ⟨⟨oc0, oc1, oc2, oc3, oc4⟩, of0, of1, of2, of3, of4⟩ := hX (.cells #[.int .i64 5, .string n, .slice none 0 0, .bool false, .string ⟨#[]⟩] 29)
          clear hb hX hX1 hlt
          go_wp2_with (first
            | (go_at_call 42; refine Calls.mono (H2.out _) ?_; rintro e w2 ⟨rfl, hw2⟩; have hw3 := hw2.symm; clear hw2; subst hw3)
            | (go_at_call 11; refine Calls.mono (H3.out _) ?_; rintro e w2 ⟨rfl, hw2⟩; have hw3 := hw2.symm; clear hw2; subst hw3)
            | (go_at_call 43; refine Calls.mono (H4.out _) ?_; rintro e w2 ⟨rfl, hw2⟩; have hw3 := hw2.symm; clear hw2; subst hw3))
          refine bodyPost_ret (by simp [results, Tryz.results44, go_sem, oc0, oc1, oc2, oc3, oc4]; try rfl) rfl ?_
          exact ⟨bad_of HE.out.symm ⟨_, _, _, _, rfl⟩, below5 (HB1.out.alloc HB1.out.size _)⟩
        | some j =>
          rw [toR_some hj] at H4
          rw [hj] at HE
          clear hj
          go_enter Tryz.func44, Tryz.ntmps44
          go_wp2_with fail
          refine Calls.mono (H1.out _) ?_
          rintro e w1 ⟨rfl, hb⟩
          have HB1 : Hid (Below w.heap.size w w1) := box_under hb
          have hX1 := box_kept hb
          have hlt := lt_heap hX1
          have HL : Hid (w.heap.size ≤ w1.heap.size) := Nat.le_of_lt hlt
          have hX : ∀ o, _ := fun o => box5 ((Below.heap_alloc w1 o w.heap.size (lt_heap hX1)).trans hX1)
          obtain ⟨⟨oc0, oc1, oc2, oc3, oc4⟩, of0, of1, of2, of3, of4⟩ := hX (.cells #[.int .i64 5, .string n, .slice none 0 0, .bool false, .string ⟨#[]⟩] 29)
          obtain ⟨⟨qc0, qc1, qc2, qc3, qc4⟩, qf0, qf1, qf2, qf3, qf4⟩ := hX (.cells #[.int .i64 5, .string n, .slice none 0 0, .bool false, .string (s.extract f j)] 29)
          clear hb hX hX1 hlt
          go_wp2_with (first
            | (go_at_call 42; refine Calls.mono (H2.out _) ?_; rintro e w2 ⟨rfl, hw2⟩; have hw3 := hw2.symm; clear hw2; subst hw3)
            | (go_at_call 11; refine Calls.mono (H3.out _) ?_; rintro e w2 ⟨rfl, hw2⟩; have hw3 := hw2.symm; clear hw2; subst hw3)
            | (go_at_call 43; refine Calls.mono (H4.out _) ?_; rintro e w2 ⟨rfl, hw2⟩; have hw3 := hw2.symm; clear hw2; subst hw3))
          refine bodyPost_ret (by simp [results, Tryz.results44, go_sem, qc0, qc1, qc2, qc3, qc4]; try rfl) rfl ?_
          exact ⟨good_of HE.out.symm rfl, below5 (HB1.out.alloc HB1.out.size _)⟩
    · rw [hq] at H2 HE
      rw [if_pos rfl] at HE
      clear hq
      go_enter Tryz.func44, Tryz.ntmps44
      go_wp2_with fail
      refine Calls.mono (H1.out _) ?_
      rintro e w1 ⟨rfl, hb⟩
      have HB1 : Hid (Below w.heap.size w w1) := box_under hb
      have hX1 := box_kept hb
      have hlt := lt_heap hX1
      have HL : Hid (w.heap.size ≤ w1.heap.size) := Nat.le_of_lt hlt
      have hX : ∀ o, _ := fun o => box5 ((Below.heap_alloc w1 o w.heap.size (lt_heap hX1)).trans hX1)
      obtain ⟨⟨oc0, oc1, oc2, oc3, oc4⟩, of0, of1, of2, of3, of4⟩ := hX (.cells #[.int .i64 5, .string n, .slice none 0 0, .bool false, .string ⟨#[]⟩] 29)
      clear hb hX hX1 hlt
      go_wp2_with (first
        | (go_at_call 42; refine Calls.mono (H2.out _) ?_; rintro e w2 ⟨rfl, hw2⟩; have hw3 := hw2.symm; clear hw2; subst hw3))
      refine bodyPost_ret (by simp [results, Tryz.results44, go_sem, oc0, oc1, oc2, oc3, oc4]; try rfl) rfl ?_
      exact ⟨good_of HE.out.symm rfl, below5 (HB1.out.alloc HB1.out.size _)⟩
  · rw [nameR_no hok] at H1
    rw [if_neg hok] at HE
    clear hok
    go_enter Tryz.func44, Tryz.ntmps44
    go_wp2_with fail
    refine Calls.mono (H1.out _) ?_
    rintro e w1 ⟨rfl, hb⟩
    have HB1 : Hid (Below w.heap.size w w1) := box_under hb
    have hX1 := box_kept hb
    have hlt := lt_heap hX1
    have HL : Hid (w.heap.size ≤ w1.heap.size) := Nat.le_of_lt hlt
    have hX : ∀ o, _ := fun o => box5 ((Below.heap_alloc w1 o w.heap.size (lt_heap hX1)).trans hX1)
    obtain ⟨⟨x0, x1, x2, x3, x4⟩, f0, f1, f2, f3, f4⟩ := box5 hX1
    clear hb hX hX1 hlt
    go_wp2
    refine bodyPost_ret (by simp [results, Tryz.results44, go_sem, x0, x1, x2, x3, x4]; try rfl) rfl ?_
    exact ⟨bad_of HE.out.symm ⟨_, _, _, _, rfl⟩, below5 (HB1.out)⟩
end Go.Proofs.YtekbpekfomblbaaGreatDoor.cuts
