/-
  What the program's SameNode answers.
-/
import Derived.Test.YtdpbiaomhndpcaaSpecSame
namespace Go.Proofs.Ytdpbiaomhndpcaa.trees
open Go.ChangeShapes Go.WideShapes Go.ChangeAt Go.RowKit
open pairs (Pair at0 PairsAt)
set_option linter.unusedVariables false
attribute [-go_sem] run_neq_struct
attribute [local go_sem] neq_decl guard_decl neq_att guard_att
noncomputable def eqDsB (L M : List Pair) : Bool := @decide (L = M) (Classical.propDecidable _)
theorem eqDs_no {L M : List Pair} (h : L ≠ M) : eqDsB L M = false := @decide_eq_false _ (Classical.propDecidable _) h
theorem eqDs_yes {L M : List Pair} (h : L = M) : eqDsB L M = true := @decide_eq_true _ (Classical.propDecidable _) h
set_option maxRecDepth 100000 in
set_option maxHeartbeats 4000000 in
theorem eqDs_fn (a a' : Option Addr) (L M : List Pair) (cap cap' : Nat) (w : World) (hL : PairsAt w a L) (hM : PairsAt w a' M) :
    Calls Try.prog 26 #[.slice a L.length cap, .slice a' M.length cap'] w fun e w' => e = .returned (.bool (eqDsB L M)) ∧ Below w.heap.size w w' := by
  have HL : Hid _ := hL
  have HM : Hid _ := hM
  have hkd : L.length ≤ 9223372036854775807 := hL.short
  clear hL hM
  by_cases hlen : L.length = M.length
  · have HLD : Hid _ := hlen
    have q5 : ((L.length : Int) != (M.length : Int)) = false := by simp [hlen]
    clear hlen
    go_enter Try.func26, Try.ntmps26
    go_wp2_with fail
    go_loopw [13] (fun t wr => ∃ i : Nat, i ≤ L.length ∧ t = .int .i64 i ∧ Hid (∀ j, j < i → at0 L j = at0 M j) ∧ Hid (Below w.heap.size w wr)) (fun t _ => L.length - (intOf t).toNat)
    case atStart => exact ⟨0, Nat.zero_le _, rfl, (fun j hj => by omega), Below.refl _ _⟩
    case round =>
      obtain ⟨i, hi, rfl, hup, hbw⟩ := hrel
      by_cases hlt : i < L.length
      · obtain ⟨b, off, ha, hblt, hc⟩ := (HL.out.below (Nat.le_refl _) hbw.out).row (by omega)
        obtain ⟨b', off', ha', hblt', hc'⟩ := (HM.out.below (Nat.le_refl _) hbw.out).row (by have := HLD.out; omega)
        have hl : ∀ W, Below wr.heap.size wr W → W.cell? ⟨b, off + i * 2, none⟩ = some (.string (at0 L i).1) ∧ W.cell? ⟨b, off + i * 2 + 1, none⟩ = some (.string (at0 L i).2) := fun W h => by
          rw [h.cell (p := ⟨b, off + i * 2, none⟩) hblt, h.cell (p := ⟨b, off + i * 2 + 1, none⟩) hblt]
          exact hc i hlt
        have hl' : ∀ W, Below wr.heap.size wr W → W.cell? ⟨b', off' + i * 2, none⟩ = some (.string (at0 M i).1) ∧ W.cell? ⟨b', off' + i * 2 + 1, none⟩ = some (.string (at0 M i).2) := fun W h => by
          rw [h.cell (p := ⟨b', off' + i * 2, none⟩) hblt', h.cell (p := ⟨b', off' + i * 2 + 1, none⟩) hblt']
          exact hc' i (by have := HLD.out; omega)
        have hilt : (i : Int) < L.length := by omega
        have hilt' : (i : Int) < M.length := by have := HLD.out; omega
        obtain ⟨y, hy⟩ : ∃ y, y = at0 L i := ⟨_, rfl⟩
        obtain ⟨y', hy'⟩ : ∃ y, y = at0 M i := ⟨_, rfl⟩
        have HE1 : Hid _ := hy
        have HE2 : Hid _ := hy'
        rw [← hy] at hl
        rw [← hy'] at hl'
        subst ha ha'
        clear hc hc' hy hy'
        obtain ⟨n0, n1⟩ := y
        obtain ⟨m0, m1⟩ := y'
        dsimp only at hl hl'
        cases hqq : ((n0.toList == m0.toList) && (n1.toList == m1.toList))
        · have HF : Hid (eqDsB L M = false) := eqDs_no fun e => by
            have : at0 L i = at0 M i := by rw [e]
            rw [← HE1.out, ← HE2.out] at this
            injection this with z0 z1
            rw [z0, z1] at hqq
            simp at hqq
          go_wp2_with fail
          refine quiets.wp_region_below (by kernel_rfl) (by kernel_rfl) ?_
          repeat (go_big_quiet_step ((first | (intro hq; rfl) | (intro hq; simp [go_sem, (hl _ hq).1, (hl _ hq).2]; rfl) | (intro hq; simp [go_sem, (hl' _ hq).1, (hl' _ hq).2]; rfl) | (intro hq; simp only [go_sem, hqq]; rfl))))
          refine wpQuiet_nil ?_
          intro w6 hb6
          have HB6 : Hid _ := hbw.out.trans (hb6.mono hbw.out.size)
          clear hb6 hl hl'
          go_wp2
          go_ret
          exact ⟨ret_bool HF.out.symm, HB6.out⟩
        · have HUP : Hid (∀ j, j < i + 1 → at0 L j = at0 M j) := fun j hj => by
            by_cases e : j = i
            · rw [e, ← HE1.out, ← HE2.out]
              simp only [Bool.and_eq_true, beq_iff_eq] at hqq
              obtain ⟨z0, z1⟩ := hqq
              rw [bytes_eq z0, bytes_eq z1]
            · exact hup.out j (by omega)
          go_wp2_with fail
          refine quiets.wp_region_below (by kernel_rfl) (by kernel_rfl) ?_
          repeat (go_big_quiet_step ((first | (intro hq; rfl) | (intro hq; simp [go_sem, (hl _ hq).1, (hl _ hq).2]; rfl) | (intro hq; simp [go_sem, (hl' _ hq).1, (hl' _ hq).2]; rfl) | (intro hq; simp only [go_sem, hqq]; rfl))))
          refine wpQuiet_nil ?_
          intro w6 hb6
          have HB6 : Hid _ := hbw.out.trans (hb6.mono hbw.out.size)
          clear hb6 hl hl'
          go_wp2
          go_roundw
          case rel => exact ⟨i + 1, by omega, by go_num, HUP.out, HB6.out⟩
          case measure => simp [intOf]; omega
      · have HF : Hid (eqDsB L M = true) := eqDs_yes (ext_at0 HLD.out fun j hj => hup.out j (by omega))
        go_wp2
        go_ret
        exact ⟨ret_bool HF.out.symm, hbw.out⟩
  · have HF : Hid (eqDsB L M = false) := eqDs_no fun e => hlen (by rw [e])
    have q5 : ((L.length : Int) != (M.length : Int)) = true := by simp; omega
    go_enter Try.func26, Try.ntmps26
    go_wp2
    go_ret
    exact ⟨ret_bool HF.out.symm, Below.refl _ _⟩
noncomputable def eqAsB (L M : List Att) : Bool := @decide (L = M) (Classical.propDecidable _)
theorem eqAs_no {L M : List Att} (h : L ≠ M) : eqAsB L M = false := @decide_eq_false _ (Classical.propDecidable _) h
theorem eqAs_yes {L M : List Att} (h : L = M) : eqAsB L M = true := @decide_eq_true _ (Classical.propDecidable _) h
set_option maxRecDepth 100000 in
set_option maxHeartbeats 4000000 in
theorem eqAs_fn (a a' : Option Addr) (L M : List Att) (cap cap' : Nat) (w : World) (hL : AttsAt w a L) (hM : AttsAt w a' M) :
    Calls Try.prog 27 #[.slice a L.length cap, .slice a' M.length cap'] w fun e w' => e = .returned (.bool (eqAsB L M)) ∧ Below w.heap.size w w' := by
  have HL : Hid _ := hL
  have HM : Hid _ := hM
  have hkd : L.length ≤ 9223372036854775807 := hL.short
  clear hL hM
  by_cases hlen : L.length = M.length
  · have HLD : Hid _ := hlen
    have q5 : ((L.length : Int) != (M.length : Int)) = false := by simp [hlen]
    clear hlen
    go_enter Try.func27, Try.ntmps27
    go_wp2_with fail
    go_loopw [13] (fun t wr => ∃ i : Nat, i ≤ L.length ∧ t = .int .i64 i ∧ Hid (∀ j, j < i → att0 L j = att0 M j) ∧ Hid (Below w.heap.size w wr)) (fun t _ => L.length - (intOf t).toNat)
    case atStart => exact ⟨0, Nat.zero_le _, rfl, (fun j hj => by omega), Below.refl _ _⟩
    case round =>
      obtain ⟨i, hi, rfl, hup, hbw⟩ := hrel
      by_cases hlt : i < L.length
      · obtain ⟨b, off, ha, hblt, hc⟩ := (HL.out.below (Nat.le_refl _) hbw.out).row (by omega)
        obtain ⟨b', off', ha', hblt', hc'⟩ := (HM.out.below (Nat.le_refl _) hbw.out).row (by have := HLD.out; omega)
        have hl : ∀ W, Below wr.heap.size wr W → W.cell? ⟨b, off + i * 4, none⟩ = some (.string (att0 L i).pre) ∧ W.cell? ⟨b, off + i * 4 + 1, none⟩ = some (.string (att0 L i).loc) ∧ W.cell? ⟨b, off + i * 4 + 2, none⟩ = some (.string (att0 L i).uri) ∧ W.cell? ⟨b, off + i * 4 + 3, none⟩ = some (.string (att0 L i).val) := fun W h => by
          rw [h.cell (p := ⟨b, off + i * 4, none⟩) hblt, h.cell (p := ⟨b, off + i * 4 + 1, none⟩) hblt, h.cell (p := ⟨b, off + i * 4 + 2, none⟩) hblt, h.cell (p := ⟨b, off + i * 4 + 3, none⟩) hblt]
          exact hc i hlt
        have hl' : ∀ W, Below wr.heap.size wr W → W.cell? ⟨b', off' + i * 4, none⟩ = some (.string (att0 M i).pre) ∧ W.cell? ⟨b', off' + i * 4 + 1, none⟩ = some (.string (att0 M i).loc) ∧ W.cell? ⟨b', off' + i * 4 + 2, none⟩ = some (.string (att0 M i).uri) ∧ W.cell? ⟨b', off' + i * 4 + 3, none⟩ = some (.string (att0 M i).val) := fun W h => by
          rw [h.cell (p := ⟨b', off' + i * 4, none⟩) hblt', h.cell (p := ⟨b', off' + i * 4 + 1, none⟩) hblt', h.cell (p := ⟨b', off' + i * 4 + 2, none⟩) hblt', h.cell (p := ⟨b', off' + i * 4 + 3, none⟩) hblt']
          exact hc' i (by have := HLD.out; omega)
        have hilt : (i : Int) < L.length := by omega
        have hilt' : (i : Int) < M.length := by have := HLD.out; omega
        obtain ⟨y, hy⟩ : ∃ y, y = att0 L i := ⟨_, rfl⟩
        obtain ⟨y', hy'⟩ : ∃ y, y = att0 M i := ⟨_, rfl⟩
        have HE1 : Hid _ := hy
        have HE2 : Hid _ := hy'
        rw [← hy] at hl
        rw [← hy'] at hl'
        subst ha ha'
        clear hc hc' hy hy'
        obtain ⟨n0, n1, n2, n3⟩ := y
        obtain ⟨m0, m1, m2, m3⟩ := y'
        dsimp only at hl hl'
        cases hqq : ((n0.toList == m0.toList) && ((n1.toList == m1.toList) && ((n2.toList == m2.toList) && (n3.toList == m3.toList))))
        · have HF : Hid (eqAsB L M = false) := eqAs_no fun e => by
            have : att0 L i = att0 M i := by rw [e]
            rw [← HE1.out, ← HE2.out] at this
            injection this with z0 z1 z2 z3
            rw [z0, z1, z2, z3] at hqq
            simp at hqq
          go_wp2_with fail
          refine quiets.wp_region_below (by kernel_rfl) (by kernel_rfl) ?_
          repeat (go_big_quiet_step ((first | (intro hq; rfl) | (intro hq; simp [go_sem, (hl _ hq).1, (hl _ hq).2.1, (hl _ hq).2.2.1, (hl _ hq).2.2.2]; rfl) | (intro hq; simp [go_sem, (hl' _ hq).1, (hl' _ hq).2.1, (hl' _ hq).2.2.1, (hl' _ hq).2.2.2]; rfl) | (intro hq; simp only [go_sem, hqq]; rfl))))
          refine wpQuiet_nil ?_
          intro w6 hb6
          have HB6 : Hid _ := hbw.out.trans (hb6.mono hbw.out.size)
          clear hb6 hl hl'
          go_wp2
          go_ret
          exact ⟨ret_bool HF.out.symm, HB6.out⟩
        · have HUP : Hid (∀ j, j < i + 1 → att0 L j = att0 M j) := fun j hj => by
            by_cases e : j = i
            · rw [e, ← HE1.out, ← HE2.out]
              simp only [Bool.and_eq_true, beq_iff_eq] at hqq
              obtain ⟨z0, z1, z2, z3⟩ := hqq
              rw [bytes_eq z0, bytes_eq z1, bytes_eq z2, bytes_eq z3]
            · exact hup.out j (by omega)
          go_wp2_with fail
          refine quiets.wp_region_below (by kernel_rfl) (by kernel_rfl) ?_
          repeat (go_big_quiet_step ((first | (intro hq; rfl) | (intro hq; simp [go_sem, (hl _ hq).1, (hl _ hq).2.1, (hl _ hq).2.2.1, (hl _ hq).2.2.2]; rfl) | (intro hq; simp [go_sem, (hl' _ hq).1, (hl' _ hq).2.1, (hl' _ hq).2.2.1, (hl' _ hq).2.2.2]; rfl) | (intro hq; simp only [go_sem, hqq]; rfl))))
          refine wpQuiet_nil ?_
          intro w6 hb6
          have HB6 : Hid _ := hbw.out.trans (hb6.mono hbw.out.size)
          clear hb6 hl hl'
          go_wp2
          go_roundw
          case rel => exact ⟨i + 1, by omega, by go_num, HUP.out, HB6.out⟩
          case measure => simp [intOf]; omega
      · have HF : Hid (eqAsB L M = true) := eqAs_yes (ext_att0 HLD.out fun j hj => hup.out j (by omega))
        go_wp2
        go_ret
        exact ⟨ret_bool HF.out.symm, hbw.out⟩
  · have HF : Hid (eqAsB L M = false) := eqAs_no fun e => hlen (by rw [e])
    have q5 : ((L.length : Int) != (M.length : Int)) = true := by simp; omega
    go_enter Try.func27, Try.ntmps27
    go_wp2
    go_ret
    exact ⟨ret_bool HF.out.symm, Below.refl _ _⟩
theorem box_under2 {w w' : World} {o o' : Obj} (hb : Below ((w.alloc o).alloc o').heap.size ((w.alloc o).alloc o') w') : Below (w.alloc o).heap.size (w.alloc o) w' := box_under hb
noncomputable def eqKsB (L M : List Tree) : Bool := @decide (L = M) (Classical.propDecidable _)
theorem eqKs_no {L M : List Tree} (h : L ≠ M) : eqKsB L M = false := @decide_eq_false _ (Classical.propDecidable _) h
theorem eqKs_yes {L M : List Tree} (h : L = M) : eqKsB L M = true := @decide_eq_true _ (Classical.propDecidable _) h
def ImplSameOk (t t' : Tree) (h h' : Hdr) (w : World) : Prop :=
  Calls Try.prog 14 #[.agg (vals t h), .agg (vals t' h')] w fun e w' => e = .returned (.bool (sameB t t')) ∧ Below w.heap.size w w'
set_option maxRecDepth 100000 in
set_option maxHeartbeats 4000000 in
theorem eqKs_fn_of (n B B' : Nat) (ih : ∀ (t t' : Tree) (h h' : Hdr) (w : World), tsize t < n → NodeIn w B t h → NodeIn w B' t' h' → ImplSameOk t t' h h' w)
    (a a' : Option Addr) (L M : List Tree) (cap cap' : Nat) (w : World) (hk : ksize L < n) (hL : NodesAt w B a L) (hM : NodesAt w B' a' M) :
    Calls Try.prog 28 #[.slice a L.length cap, .slice a' M.length cap', .func (.func 14) #[] #[]] w fun e w' => e = .returned (.bool (eqKsB L M)) ∧ Below w.heap.size w w' := by
  have HL : Hid _ := hL
  have HM : Hid _ := hM
  have HIH : Hid _ := ih
  have HKT : Hid (∀ i, i < L.length → tsize (kid L i) < n) := fun i hi => Nat.lt_of_le_of_lt (ksize_kid L i hi) hk
  have hkd : L.length ≤ 9223372036854775807 := hL.short
  clear hL hM ih hk
  by_cases hlen : L.length = M.length
  · have HLD : Hid _ := hlen
    have q5 : ((L.length : Int) != (M.length : Int)) = false := by simp [hlen]
    clear hlen
    go_enter Try.func28, Try.ntmps28
    go_wp2_with fail
    go_loopw [17] (fun t wr => ∃ i : Nat, i ≤ L.length ∧ t = .int .i64 i ∧ Hid (∀ j, j < i → kid L j = kid M j) ∧ Hid (Below w.heap.size w wr)) (fun t _ => L.length - (intOf t).toNat)
    case atStart => exact ⟨0, Nat.zero_le _, rfl, (fun j hj => by omega), Below.refl _ _⟩
    case round =>
      obtain ⟨i, hi, rfl, hup, hbw⟩ := hrel
      by_cases hlt : i < L.length
      · obtain ⟨b, off, ha, hblt, hc⟩ := (HL.out.below hbw.out).row (by omega)
        obtain ⟨h1, hn1, hc0, hc1, hc2, hc3, hc4, hc5, hc6, hc7⟩ := hc i hlt
        have hM2 := HM.out.below hbw.out
        obtain ⟨b', off', ha', hblt', hc'⟩ := hM2.row (by have := HLD.out; omega)
        have hilt : (i : Int) < L.length := by omega
        have hilt' : (i : Int) < M.length := by have := HLD.out; omega
        obtain ⟨h2, hn2, hd0, hd1, hd2, hd3, hd4, hd5, hd6, hd7⟩ := hc' i (by omega)
        obtain ⟨y, hy⟩ : ∃ y, y = kid L i := ⟨_, rfl⟩
        obtain ⟨y', hy'⟩ : ∃ y, y = kid M i := ⟨_, rfl⟩
        have hE : ∀ o o', ImplSameOk y y' h1 h2 ((wr.alloc o).alloc o') := fun o o' => by
          have hb2 : Below wr.heap.size wr ((wr.alloc o).alloc o') := ((Below.refl _ _).alloc (Nat.le_refl _) o).alloc (by simp) o'
          exact HIH.out y y' h1 h2 _ (by rw [hy]; exact HKT.out i hlt) (by rw [hy]; exact hn1.below hb2) (by rw [hy']; exact hn2.below hb2)
        unfold ImplSameOk at hE
        unfold vals at hE
        have HE : Hid (∀ o o', _) := hE
        have HE1 : Hid _ := hy
        have HE2 : Hid _ := hy'
        rw [← hy] at hc0 hc1 hc2 hc3 hc4 hc5 hc6 hc7
        rw [← hy'] at hd0 hd1 hd2 hd3 hd4 hd5 hd6 hd7
        subst ha ha'
        clear hc hc' hy hy' hE hn1 hn2 hM2
        go_wp2_with fail
        refine Calls.mono (HE.out _ _) ?_
        rintro e w2 ⟨rfl, hb3⟩
        have HB2 : Hid _ := hbw.out.trans ((box_under (box_under2 hb3)).mono hbw.out.size)
        clear hb3 HE
        cases hqq : sameB y y'
        · have HF : Hid (eqKsB L M = false) := eqKs_no fun e => by
            have : kid L i = kid M i := by rw [e]
            rw [← HE1.out, ← HE2.out] at this
            rw [same_yes this] at hqq
            cases hqq
          go_wp2
          go_ret
          exact ⟨ret_bool HF.out.symm, HB2.out⟩
        · have HUP : Hid (∀ j, j < i + 1 → kid L j = kid M j) := fun j hj => by
            by_cases e : j = i
            · rw [e, ← HE1.out, ← HE2.out]
              by_cases h : y = y'
              · exact h
              · rw [same_no h] at hqq
                cases hqq
            · exact hup.out j (by omega)
          go_wp2
          go_roundw
          case rel => exact ⟨i + 1, by omega, by go_num, HUP.out, HB2.out⟩
          case measure => simp [intOf]; omega
      · have HF : Hid (eqKsB L M = true) := eqKs_yes (ext_kid HLD.out fun j hj => hup.out j (by omega))
        go_wp2
        go_ret
        exact ⟨ret_bool HF.out.symm, hbw.out⟩
  · have HF : Hid (eqKsB L M = false) := eqKs_no fun e => hlen (by rw [e])
    have q5 : ((L.length : Int) != (M.length : Int)) = true := by simp; omega
    go_enter Try.func28, Try.ntmps28
    go_wp2
    go_ret
    exact ⟨ret_bool HF.out.symm, Below.refl _ _⟩
theorem eqDs_flat (a a' : Option Addr) (L M : List Pair) (cap cap' : Nat) (b : Bool) (h : eqDsB L M = b) (w : World) (hL : PairsAt w a L) (hM : PairsAt w a' M) :
    Calls Try.prog 26 #[.slice a L.length cap, .slice a' M.length cap'] w fun e w' => e = .returned (.bool b) ∧ Below w.heap.size w w' := by rw [← h]; exact eqDs_fn a a' L M cap cap' w hL hM
theorem eqAs_flat (a a' : Option Addr) (L M : List Att) (cap cap' : Nat) (b : Bool) (h : eqAsB L M = b) (w : World) (hL : AttsAt w a L) (hM : AttsAt w a' M) :
    Calls Try.prog 27 #[.slice a L.length cap, .slice a' M.length cap'] w fun e w' => e = .returned (.bool b) ∧ Below w.heap.size w w' := by rw [← h]; exact eqAs_fn a a' L M cap cap' w hL hM
set_option maxRecDepth 100000 in
set_option maxHeartbeats 4000000 in
theorem impl_same_node_of (n B B' : Nat) (ihS : ∀ (a a' : Option Addr) (L M : List Tree) (cap cap' : Nat) (w : World), ksize L < n → NodesAt w B a L → NodesAt w B' a' M → Calls Try.prog 28 #[.slice a L.length cap, .slice a' M.length cap', .func (.func 14) #[] #[]] w fun e w' => e = .returned (.bool (eqKsB L M)) ∧ Below w.heap.size w w')
    (t t' : Tree) (h h' : Hdr) (w : World) (ht : tsize t ≤ n) (hn : NodeIn w B t h) (hn' : NodeIn w B' t' h') : ImplSameOk t t' h h' w := by
  obtain ⟨k, p, l, u, x, ds, ats, ks⟩ := t
  obtain ⟨k', p', l', u', x', ds', ats', ks'⟩ := t'
  obtain ⟨da, dc, aa, ac, ka, kc⟩ := h
  obtain ⟨da', dc', aa', ac', ka', kc'⟩ := h'
  have HD : Hid (PairsAt w da ds) := hn.decls
  have HA : Hid (AttsAt w aa ats) := hn.atts
  have HK : Hid (NodesAt w B ka ks) := kids_at hn
  have HD' : Hid (PairsAt w da' ds') := hn'.decls
  have HA' : Hid (AttsAt w aa' ats') := hn'.atts
  have HK' : Hid (NodesAt w B' ka' ks') := kids_at hn'
  have HKS : Hid (ksize ks < n) := by rw [tsize] at ht; show _ < _; omega
  have HIS : Hid _ := ihS
  unfold ImplSameOk
  simp only [vals, Tree.kind, Tree.pre, Tree.loc, Tree.uri, Tree.text, Tree.ds, Tree.ats, Tree.kids]
  clear ihS hn hn' ht
  by_cases hE : k = k' ∧ p.toList = p'.toList ∧ l.toList = l'.toList ∧ u.toList = u'.toList ∧ x.toList = x'.toList
  · obtain ⟨rfl, e1, e2, e3, e4⟩ := hE
    obtain rfl := bytes_eq e1
    obtain rfl := bytes_eq e2
    obtain rfl := bytes_eq e3
    obtain rfl := bytes_eq e4
    clear e1 e2 e3 e4
    obtain ⟨q1, hq1⟩ : ∃ q, eqDsB ds ds' = q := ⟨_, rfl⟩
    have H1 : Hid (∀ w, _) := eqDs_flat da da' ds ds' dc dc' q1 hq1
    obtain ⟨q2, hq2⟩ : ∃ q, eqAsB ats ats' = q := ⟨_, rfl⟩
    have H2 : Hid (∀ w, _) := eqAs_flat aa aa' ats ats' ac ac' q2 hq2
    obtain ⟨q3, hq3⟩ : ∃ q, eqKsB ks ks' = q := ⟨_, rfl⟩
    have H3 : Hid (∀ (w : World), NodesAt w B ka ks → NodesAt w B' ka' ks' → Calls Try.prog 28 #[.slice ka ks.length kc, .slice ka' ks'.length kc', .func (.func 14) #[] #[]] w fun e w' => e = .returned (.bool q3) ∧ Below w.heap.size w w') := fun w h1 h2 => by rw [← hq3]; exact HIS.out _ _ _ _ _ _ _ HKS.out h1 h2
    have HF : Hid (sameB (.mk k p l u x ds ats ks) (.mk k p l u x ds' ats' ks') = (q1 && (q2 && q3))) := by
      show _ = _
      rw [← hq1, ← hq2, ← hq3]
      by_cases z1 : ds = ds'
      · by_cases z2 : ats = ats'
        · by_cases z3 : ks = ks'
          · rw [eqDs_yes z1, eqAs_yes z2, eqKs_yes z3, same_yes (by rw [z1, z2, z3])]; rfl
          · rw [eqKs_no z3, same_no fun e => by injection e with _ _ _ _ _ g1 g2 g3; exact z3 g3]; simp
        · rw [eqAs_no z2, same_no fun e => by injection e with _ _ _ _ _ g1 g2 g3; exact z2 g2]; simp
      · rw [eqDs_no z1, same_no fun e => by injection e with _ _ _ _ _ g1 g2 g3; exact z1 g1]; simp
    generalize sameB (.mk k p l u x ds ats ks) (.mk k p l u x ds' ats' ks') = res at HF ⊢
    clear hq1 hq2 hq3 HIS HKS
    go_enter Try.func14, Try.ntmps14
    have HT0 : Hid (Two w ((w.alloc (.cells #[.int .i64 k, .string p, .string l, .string u, .slice da ds.length dc, .slice aa ats.length ac, .slice ka ks.length kc, .string x] 30)).alloc (.cells #[.int .i64 k, .string p, .string l, .string u, .slice da' ds'.length dc', .slice aa' ats'.length ac', .slice ka' ks'.length kc', .string x] 30)) 30 #[.int .i64 k, .string p, .string l, .string u, .slice da ds.length dc, .slice aa ats.length ac, .slice ka ks.length kc, .string x] #[.int .i64 k, .string p, .string l, .string u, .slice da' ds'.length dc', .slice aa' ats'.length ac', .slice ka' ks'.length kc', .string x]) := Two.new w _ _ _
    go_wp2_with fail
    refine (H1.out _ (HD.out.below (Nat.le_refl _) HT0.out.bel) (HD'.out.below (Nat.le_refl _) HT0.out.bel)).mono ?_
    rintro e w1 ⟨rfl, hb1⟩
    have HT1 : Hid _ := HT0.out.below hb1
    obtain ⟨b0, b1, b2, b3, b4, b5, b6, b7⟩ := box8 HT1.out.fst
    obtain ⟨y0, y1, y2, y3, y4, y5, y6, y7⟩ := box8 HT1.out.snd
    clear hb1 HT0
    cases q1
    · go_wp2
      go_ret
      exact ⟨ret_bool HF.out.symm, HT1.out.bel⟩
    · go_wp2_with fail
      refine (H2.out _ (HA.out.below (Nat.le_refl _) HT1.out.bel) (HA'.out.below (Nat.le_refl _) HT1.out.bel)).mono ?_
      rintro e w2 ⟨rfl, hb2⟩
      have HT2 : Hid _ := HT1.out.below hb2
      clear hb2 HT1 b0 b1 b2 b3 b4 b5 b6 b7 y0 y1 y2 y3 y4 y5 y6 y7
      obtain ⟨b0, b1, b2, b3, b4, b5, b6, b7⟩ := box8 HT2.out.fst
      obtain ⟨y0, y1, y2, y3, y4, y5, y6, y7⟩ := box8 HT2.out.snd
      cases q2
      · go_wp2
        go_ret
        exact ⟨ret_bool HF.out.symm, HT2.out.bel⟩
      · go_wp2_with fail
        refine (H3.out _ (HK.out.below HT2.out.bel) (HK'.out.below HT2.out.bel)).mono ?_
        rintro e w3 ⟨rfl, hb3⟩
        have HT3 : Hid _ := HT2.out.below hb3
        clear hb3 HT2 b0 b1 b2 b3 b4 b5 b6 b7 y0 y1 y2 y3 y4 y5 y6 y7
        cases q3
        all_goals
          go_wp2
          go_ret
          exact ⟨ret_bool HF.out.symm, HT3.out.bel⟩
  · have HF : Hid (sameB (.mk k p l u x ds ats ks) (.mk k' p' l' u' x' ds' ats' ks') = false) := same_no fun e => by
      cases e
      exact hE ⟨rfl, rfl, rfl, rfl, rfl⟩
    have HNE : Hid _ := hE
    clear hE
    cases z0 : (k == k')
    · go_enter Try.func14, Try.ntmps14
      go_wp2_with fail
      go_ret
      exact ⟨ret_bool HF.out.symm, ((Below.refl _ _).alloc (Nat.le_refl _) _).alloc (by simp) _⟩
    · skip
      cases z1 : (p.toList == p'.toList)
      · go_enter Try.func14, Try.ntmps14
        go_wp2_with fail
        go_ret
        exact ⟨ret_bool HF.out.symm, ((Below.refl _ _).alloc (Nat.le_refl _) _).alloc (by simp) _⟩
      · skip
        cases z2 : (l.toList == l'.toList)
        · go_enter Try.func14, Try.ntmps14
          go_wp2_with fail
          go_ret
          exact ⟨ret_bool HF.out.symm, ((Below.refl _ _).alloc (Nat.le_refl _) _).alloc (by simp) _⟩
        · skip
          cases z3 : (u.toList == u'.toList)
          · go_enter Try.func14, Try.ntmps14
            go_wp2_with fail
            go_ret
            exact ⟨ret_bool HF.out.symm, ((Below.refl _ _).alloc (Nat.le_refl _) _).alloc (by simp) _⟩
          · skip
            cases z4 : (x.toList == x'.toList)
            · go_enter Try.func14, Try.ntmps14
              go_wp2_with fail
              go_ret
              exact ⟨ret_bool HF.out.symm, ((Below.refl _ _).alloc (Nat.le_refl _) _).alloc (by simp) _⟩
            · exact absurd ⟨by simpa using z0, by simpa using z1, by simpa using z2, by simpa using z3, by simpa using z4⟩ HNE.out
theorem impl_same_node (B B' : Nat) : ∀ n, ∀ (t t' : Tree) (h h' : Hdr) (w : World), tsize t < n → NodeIn w B t h → NodeIn w B' t' h' → ImplSameOk t t' h h' w
  | 0, t, t', h, h', w, ht, _, _ => by omega
  | n + 1, t, t', h, h', w, ht, hn, hn' => impl_same_node_of n B B' (fun a a' L M cap cap' w hk hL hM => eqKs_fn_of n B B' (fun t t' h h' w ht hn hn' => impl_same_node B B' n t t' h h' w ht hn hn') a a' L M cap cap' w hk hL hM) t t' h h' w (by omega) hn hn'
end Go.Proofs.Ytdpbiaomhndpcaa.trees
