/-
  What the program's Merge answers.
-/
import Derived.Test.YtpejcblmglbjfaaSpecMerge
import Derived.Test.YtpejcblmglbjfaaImplCopy
namespace Go.Proofs.Ytpejcblmglbjfaa.trees
open Go.ChangeShapes Go.WideShapes Go.ChangeAt Go.RowKit
open pairs (Pair at0 PairsAt)
set_option linter.unusedVariables false
set_option maxRecDepth 100000 in
set_option maxHeartbeats 8000000 in
theorem impl_merge (B : Nat) (L : List Tree) (a : Option Addr) (cap : Nat) (w : World) (hz : nszs L ≤ 1048576) (hL : Hid (NodesAt w B a L)) : MergeOk 89 L a cap w := by
  have HZ : Hid _ := hz
  have hlz : L.length ≤ 1048576 := by have := nszs_eq L; omega
  clear hz
  unfold MergeOk
  go_enter Try.func89, Try.ntmps89
  go_wp2
  have HR0 : Hid (MergeRow w (w.alloc (.cells #[] 28)) L 0 0 w.heap.size 0 [] (fun _ _ => False)) := ⟨new_row w, rfl, by show nszs [] + nszs L ≤ _; rw [nszs]; omega, (Below.refl _ _).alloc (Nat.le_refl _) _⟩
  go_loopw [3, 10] (fun q t wr => ∃ (k n g c : Nat) (P : List TH) (G : Nat → Bset), k ≤ L.length ∧ t = .int .i64 k ∧ q = .slice (some ⟨g, 0, none⟩) n c ∧ Hid (MergeRow w wr L k n g c P G)) (fun _ t _ => L.length - (intOf t).toNat)
  case atStart => exact ⟨0, 0, _, _, [], fun _ _ => False, Nat.zero_le _, rfl, rfl, HR0⟩
  case round =>
    obtain ⟨k, n, g, c, P, G, hk, rfl, rfl, hM⟩ := hrel
    by_cases hlt : k < L.length
    · obtain ⟨b, off, ha, hblt, hc⟩ := (hL.out.below hM.out.bel).row (by omega)
      obtain ⟨h, hnode, hc0, hc1, hc2, hc3, hc4, hc5, hc6, hc7⟩ := hc k hlt
      have hkz := nsz_kid L k hlt
      have HT : Hid (∀ W, Below wr.heap.size wr W → CopyOk 52 (kid L k) h W) := fun W hb => copy_node B (tsize (kid L k) + 1) (kid L k) h W (by omega) (by have := HZ.out; omega) (hnode.below hb)
      have hnn := hM.out.len HZ.out
      obtain ⟨x, hx⟩ : ∃ x, x = kid L k := ⟨_, rfl⟩
      rw [← hx] at hc0 hc1 hc2 hc3 hc4 hc5 hc6 hc7 HT
      have HX : Hid _ := hx
      subst ha
      clear hc hnode hkz hx
      rcases Classical.em (x.kind = 2) with h1 | h1
      · rcases Classical.em (x.text = ⟨#[]⟩) with h2 | h2
        · go_wp2
          exact ⟨⟨k + 1, n, g, c, P, G, by omega, by go_num, rfl, (hM.out.below ((Below.refl _ _).alloc (Nat.le_refl _) _)).skip hlt HX.out h1 h2⟩, by simp [intOf]; omega⟩
        have he := text_ne h2
        rcases n with _ | m
        rotate_left
        · obtain ⟨R, y, rfl, rfl⟩ := snoc_cases hM.out.row.len
          have hq := fun (o : Obj) q hq => (hM.out.row.below ((Below.refl _ _).alloc (Nat.le_refl _) o)).cells (i := R.length) (by omega) q hq
          simp only [th0_last] at hq
          have q0 : ∀ o, (wr.alloc o).cell? ⟨g, R.length * 8, none⟩ = some (.int .i64 y.1.kind) := fun o => hq o 0 (by omega)
          have q7 : ∀ o, (wr.alloc o).cell? ⟨g, R.length * 8 + 7, none⟩ = some (.string y.1.text) := fun o => hq o 7 (by omega)
          have fz : ∀ o j, (wr.alloc o).frozen? ⟨g, j, none⟩ = false := fun o j => World.ownsRow.frozenAt (hM.out.row.below ((Below.refl _ _).alloc (Nat.le_refl _) o)).own j
          clear hq
          rcases Classical.em (y.1.kind = 2) with h3 | h3
          · have hroom := hM.out.room hlt HZ.out
            rw [← HX.out] at hroom
            go_wp2_with fail
            go_region
            all_goals go_wp2
            all_goals exact ⟨⟨k + 1, R.length + 1, g, c, _, G, by omega, by go_num, rfl, (hM.out.below (((Below.refl _ _).alloc (Nat.le_refl _) _).drew)).join HZ.out hlt HX.out h1 h2 h3⟩, by simp [intOf]; omega⟩
          have HC : Hid (x.kind = 2 → ¬ x.text = ⟨#[]⟩ ∧ (0 < R.length + 1 → ¬ (th0 (R ++ [y]) (R.length + 1 - 1)).1.kind = 2)) := fun _ => ⟨h2, fun _ => by rw [Nat.add_sub_cancel, th0_last]; exact h3⟩
          go_wp2_with fail
          clear q0 q7 fz
          have hT := HT.out _ ((Below.refl _ _).alloc (Nat.le_refl _) (.cells (vals x h) 28))
          unfold CopyOk vals at hT
          try rw [h1] at hT
          refine Calls.mono hT ?_
          rintro e w2 ⟨⟨h', rfl, hn2⟩, hb2⟩
          have HN2 : Hid (OwnN w2 x h' (Rng wr w2)) := hn2.sub (Rng.wide (by simp) (Nat.le_refl _))
          have HB2 : Hid (Below wr.heap.size wr w2) := ((Below.refl _ _).alloc (Nat.le_refl _) _).trans (hb2.mono (by simp))
          clear hb2 hn2 hT HT hc0 hc1 hc2 hc3 hc4 hc5 hc6 hc7
          have HR3 : Hid (RowV w2 w.heap.size g _ c _ G) := hM.out.row.below HB2.out
          have HF3 : Hid (Inc (Rng wr w2) (fun b => w.heap.size ≤ b ∧ b < w2.heap.size)) := fun b hb => ⟨Nat.le_trans hM.out.bel.size hb.1, hb.2⟩
          have HG3 : Hid (¬ Rng wr w2 g) := fun hb => by have := hM.out.row.lt; have := hb.1; omega
          have HA3 : Hid (∀ i, Apart (G i) (Rng wr w2)) := fun i b hb hc => by have := (hM.out.row.rng i b hb).2; have := hc.1; omega
          have HBW : Hid (Below w.heap.size w w2) := hM.out.bel.trans (HB2.out.mono hM.out.bel.size)
          have hBW : w.heap.size ≤ w2.heap.size := HBW.out.size
          go_wp2_with (at_builtin; refine add_node_eq w.heap.size g _ c _ G (x, h') (Rng wr w2) _ _ (by first | rfl | (show _ = vals x h'; unfold vals; rw [h1])) HR3.out hBW (by omega) HN2.out HF3.out HG3.out HA3.out (by rfl) _ _ (by rfl) (by rfl) _ (by rfl) (by simp) ?_; rintro g' c' w4 hR4 hb4 hs4)
          have HM4 : Hid _ := hM.out.add hlt HX.out HC.out hR4 (HBW.out.trans hb4)
          clear hR4 hb4 hs4 hBW HR3 HF3
          go_wp2
          exact ⟨⟨k + 1, _, g', c', _, _, by omega, by go_num, rfl, HM4.out⟩, by simp [intOf]; omega⟩
        · have HC : Hid (x.kind = 2 → ¬ x.text = ⟨#[]⟩ ∧ (0 < 0 → ¬ (th0 P (0 - 1)).1.kind = 2)) := fun _ => ⟨h2, fun h => absurd h (by omega)⟩
          go_wp2_with fail
          have hT := HT.out _ ((Below.refl _ _).alloc (Nat.le_refl _) (.cells (vals x h) 28))
          unfold CopyOk vals at hT
          try rw [h1] at hT
          refine Calls.mono hT ?_
          rintro e w2 ⟨⟨h', rfl, hn2⟩, hb2⟩
          have HN2 : Hid (OwnN w2 x h' (Rng wr w2)) := hn2.sub (Rng.wide (by simp) (Nat.le_refl _))
          have HB2 : Hid (Below wr.heap.size wr w2) := ((Below.refl _ _).alloc (Nat.le_refl _) _).trans (hb2.mono (by simp))
          clear hb2 hn2 hT HT hc0 hc1 hc2 hc3 hc4 hc5 hc6 hc7
          have HR3 : Hid (RowV w2 w.heap.size g _ c _ G) := hM.out.row.below HB2.out
          have HF3 : Hid (Inc (Rng wr w2) (fun b => w.heap.size ≤ b ∧ b < w2.heap.size)) := fun b hb => ⟨Nat.le_trans hM.out.bel.size hb.1, hb.2⟩
          have HG3 : Hid (¬ Rng wr w2 g) := fun hb => by have := hM.out.row.lt; have := hb.1; omega
          have HA3 : Hid (∀ i, Apart (G i) (Rng wr w2)) := fun i b hb hc => by have := (hM.out.row.rng i b hb).2; have := hc.1; omega
          have HBW : Hid (Below w.heap.size w w2) := hM.out.bel.trans (HB2.out.mono hM.out.bel.size)
          have hBW : w.heap.size ≤ w2.heap.size := HBW.out.size
          go_wp2_with (at_builtin; refine add_node_eq w.heap.size g _ c _ G (x, h') (Rng wr w2) _ _ (by first | rfl | (show _ = vals x h'; unfold vals; rw [h1])) HR3.out hBW (by omega) HN2.out HF3.out HG3.out HA3.out (by rfl) _ _ (by rfl) (by rfl) _ (by rfl) (by simp) ?_; rintro g' c' w4 hR4 hb4 hs4)
          have HM4 : Hid _ := hM.out.add hlt HX.out HC.out hR4 (HBW.out.trans hb4)
          clear hR4 hb4 hs4 hBW HR3 HF3
          go_wp2
          exact ⟨⟨k + 1, _, g', c', _, _, by omega, by go_num, rfl, HM4.out⟩, by simp [intOf]; omega⟩
      · have HC : Hid (x.kind = 2 → ¬ x.text = ⟨#[]⟩ ∧ (0 < n → ¬ (th0 P (n - 1)).1.kind = 2)) := fun h => absurd h h1
        go_wp2_with fail
        have hT := HT.out _ ((Below.refl _ _).alloc (Nat.le_refl _) (.cells (vals x h) 28))
        unfold CopyOk vals at hT
        try rw [h1] at hT
        refine Calls.mono hT ?_
        rintro e w2 ⟨⟨h', rfl, hn2⟩, hb2⟩
        have HN2 : Hid (OwnN w2 x h' (Rng wr w2)) := hn2.sub (Rng.wide (by simp) (Nat.le_refl _))
        have HB2 : Hid (Below wr.heap.size wr w2) := ((Below.refl _ _).alloc (Nat.le_refl _) _).trans (hb2.mono (by simp))
        clear hb2 hn2 hT HT hc0 hc1 hc2 hc3 hc4 hc5 hc6 hc7
        have HR3 : Hid (RowV w2 w.heap.size g _ c _ G) := hM.out.row.below HB2.out
        have HF3 : Hid (Inc (Rng wr w2) (fun b => w.heap.size ≤ b ∧ b < w2.heap.size)) := fun b hb => ⟨Nat.le_trans hM.out.bel.size hb.1, hb.2⟩
        have HG3 : Hid (¬ Rng wr w2 g) := fun hb => by have := hM.out.row.lt; have := hb.1; omega
        have HA3 : Hid (∀ i, Apart (G i) (Rng wr w2)) := fun i b hb hc => by have := (hM.out.row.rng i b hb).2; have := hc.1; omega
        have HBW : Hid (Below w.heap.size w w2) := hM.out.bel.trans (HB2.out.mono hM.out.bel.size)
        have hBW : w.heap.size ≤ w2.heap.size := HBW.out.size
        go_wp2_with (at_builtin; refine add_node_eq w.heap.size g _ c _ G (x, h') (Rng wr w2) _ _ (by first | rfl | (show _ = vals x h'; unfold vals; rw [h1])) HR3.out hBW (by omega) HN2.out HF3.out HG3.out HA3.out (by rfl) _ _ (by rfl) (by rfl) _ (by rfl) (by simp) ?_; rintro g' c' w4 hR4 hb4 hs4)
        have HM4 : Hid _ := hM.out.add hlt HX.out HC.out hR4 (HBW.out.trans hb4)
        clear hR4 hb4 hs4 hBW HR3 HF3
        go_wp2
        exact ⟨⟨k + 1, _, g', c', _, _, by omega, by go_num, rfl, HM4.out⟩, by simp [intOf]; omega⟩
    · obtain rfl : k = L.length := by omega
      have hz := hM.out.sz
      have hv := hM.out.val
      have hl := hM.out.row.len
      rw [List.take_length] at hv
      rw [List.drop_length, nszs] at hz
      subst hl
      go_wp2
      go_ret
      exact ⟨⟨g, c, P, G, rfl, hv, hM.out.row, by omega⟩, hM.out.bel⟩
end Go.Proofs.Ytpejcblmglbjfaa.trees
