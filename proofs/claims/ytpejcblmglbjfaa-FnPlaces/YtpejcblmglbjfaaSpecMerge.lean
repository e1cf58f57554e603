/-
  What the specification's Merge answers.
-/
import Derived.Test.YtpejcblmglbjfaaMergeP
import Derived.Test.YtpejcblmglbjfaaSpecCopy
namespace Go.Proofs.Ytpejcblmglbjfaa.trees
open Go.ChangeShapes Go.WideShapes Go.ChangeAt Go.RowKit
open pairs (Pair at0 PairsAt)
set_option linter.unusedVariables false
/-- Where a merge stands. -/
structure MergeRow (w wr : World) (L : List Tree) (k n g c : Nat) (P : List TH) (G : Nat → Bset) : Prop where
  row : RowV wr w.heap.size g n c P G
  val : trees1 P = mergeL (L.take k)
  sz : nszs (trees1 P) + nszs (L.drop k) ≤ nszs L
  bel : Below w.heap.size w wr
theorem MergeRow.len {w wr : World} {L : List Tree} {k n g c : Nat} {P : List TH} {G : Nat → Bset} (h : MergeRow w wr L k n g c P G) (hz : nszs L ≤ 1048576) : n ≤ 1048576 := by
  have h1 := h.sz
  have h2 := nszs_eq (trees1 P)
  rw [trees1_len, h.row.len] at h2
  omega
theorem MergeRow.below {w wr w' : World} {L : List Tree} {k n g c : Nat} {P : List TH} {G : Nat → Bset} (h : MergeRow w wr L k n g c P G) (hb : Below wr.heap.size wr w') : MergeRow w w' L k n g c P G :=
  ⟨h.row.below hb, h.val, h.sz, h.bel.trans (hb.mono h.bel.size)⟩
theorem MergeRow.skip {w wr : World} {L : List Tree} {k n g c : Nat} {P : List TH} {G : Nat → Bset} {x : Tree} (h : MergeRow w wr L k n g c P G) (hk : k < L.length) (hx : x = kid L k) (h1 : x.kind = 2) (h2 : x.text = ⟨#[]⟩) : MergeRow w wr L (k + 1) n g c P G := by
  subst hx
  refine ⟨h.row, by rw [mergeL_take hk, addM_none h1 h2]; exact h.val, ?_, h.bel⟩
  have := nszs_drop hk
  have := h.sz
  omega
theorem MergeRow.add {w wr w' : World} {L : List Tree} {k n g c g' c' : Nat} {P : List TH} {G : Nat → Bset} {G' : Nat → Bset} {x : Tree} {h0 : Hdr} (h : MergeRow w wr L k n g c P G) (hk : k < L.length) (hx : x = kid L k) (hc : x.kind = 2 → ¬ x.text = ⟨#[]⟩ ∧ (0 < n → ¬ (th0 P (n - 1)).1.kind = 2))
    (hr : RowV w' w.heap.size g' (n + 1) c' (P ++ [(x, h0)]) G') (hb : Below w.heap.size w w') : MergeRow w w' L (k + 1) (n + 1) g' c' (P ++ [(x, h0)]) G' := by
  subst hx
  refine ⟨hr, ?_, ?_, hb⟩
  · rw [trees1_append, trees1_one, h.val, mergeL_take hk, addM_more]
    intro e
    refine ⟨(hc e).1, fun h1 => ?_⟩
    rw [← h.val, trees1_len, h.row.len] at h1
    have := (hc e).2 h1
    rw [← kid_th P (n - 1) (by have := h.row.len; omega)] at this
    unfold lastM
    rw [← h.val, trees1_len, h.row.len]
    exact this
  · rw [trees1_append, trees1_one, nszs_append, nszs_one]
    have := nszs_drop hk
    have := h.sz
    show _ + (1 + nsz (kid L k)) + _ ≤ _
    omega
theorem MergeRow.room {w wr : World} {L : List Tree} {k n g c : Nat} {R : List TH} {y : TH} {G : Nat → Bset} (h : MergeRow w wr L k n g c (R ++ [y]) G) (hk : k < L.length) (hz : nszs L ≤ 1048576) : y.1.text.size + (kid L k).text.size ≤ 1048576 := by
  have h1 := h.sz
  rw [trees1_append, trees1_one, nszs_append, nszs_one, nszs_drop hk] at h1
  have := text_nsz y.1
  have := text_nsz (kid L k)
  omega
theorem MergeRow.join {w wr : World} {L : List Tree} {k n g c : Nat} {R : List TH} {y : TH} {G : Nat → Bset} {x : Tree} (h : MergeRow w wr L k n g c (R ++ [y]) G) (hz : nszs L ≤ 1048576) (hk : k < L.length) (hx : x = kid L k) (h1 : x.kind = 2) (h2 : ¬ x.text = ⟨#[]⟩) (h3 : y.1.kind = 2) :
    MergeRow w (wr.setCell ⟨g, R.length * 8 + 7, none⟩ (.string (y.1.text ++ x.text))) L (k + 1) n g c (R ++ [(y.1.withText (y.1.text ++ x.text), y.2)]) G := by
  subst hx
  have hr := h.room hk hz
  have hv := h.val
  rw [trees1_append, trees1_one] at hv
  refine ⟨h.row.text _ (by rw [ByteArray.size_append]; unfold maxLen; omega), ?_, ?_, pairs.below_set h.bel h.row.lt.1⟩
  · rw [trees1_append, trees1_one, mergeL_take hk, ← hv, addM_join h1 h2 h3]
  · have h4 := h.sz
    rw [trees1_append, trees1_one, nszs_append, nszs_one] at h4 ⊢
    show _ + (1 + nsz (y.1.withText (y.1.text ++ (kid L k).text))) + _ ≤ _
    rw [nsz_with]
    have := nszs_drop hk
    have := text_nsz (kid L k)
    omega
theorem snoc_cases {P : List TH} {n : Nat} (h : P.length = n + 1) : ∃ R y, P = R ++ [y] ∧ R.length = n := by
  rcases List.eq_nil_or_concat P with rfl | ⟨R, y, rfl⟩
  · simp at h
  · exact ⟨R, y, by simp, by simpa using h⟩
set_option maxRecDepth 100000 in
set_option maxHeartbeats 8000000 in
theorem spec_merge (B : Nat) (L : List Tree) (a : Option Addr) (cap : Nat) (w : World) (hz : nszs L ≤ 1048576) (hL : Hid (NodesAt w B a L)) : MergeOk 91 L a cap w := by
  have HZ : Hid _ := hz
  have hlz : L.length ≤ 1048576 := by have := nszs_eq L; omega
  clear hz
  unfold MergeOk
  go_enter Try.func91, Try.ntmps91
  go_wp2
  have HR0 : Hid (MergeRow w (w.alloc (.cells #[] 28)) L 0 0 w.heap.size 0 [] (fun _ _ => False)) := ⟨new_row w, rfl, by show nszs [] + nszs L ≤ _; rw [nszs]; omega, (Below.refl _ _).alloc (Nat.le_refl _) _⟩
  go_loopw [3, 4] (fun q t wr => ∃ (k n g c : Nat) (P : List TH) (G : Nat → Bset), k ≤ L.length ∧ t = .int .i64 k ∧ q = .slice (some ⟨g, 0, none⟩) n c ∧ Hid (MergeRow w wr L k n g c P G)) (fun _ t _ => L.length - (intOf t).toNat)
  case atStart => exact ⟨0, 0, _, _, [], fun _ _ => False, Nat.zero_le _, rfl, rfl, HR0⟩
  case round =>
    obtain ⟨k, n, g, c, P, G, hk, rfl, rfl, hM⟩ := hrel
    by_cases hlt : k < L.length
    · obtain ⟨b, off, ha, hblt, hc⟩ := (hL.out.below hM.out.bel).row (by omega)
      obtain ⟨h, hnode, hc0, hc1, hc2, hc3, hc4, hc5, hc6, hc7⟩ := hc k hlt
      have hkz := nsz_kid L k hlt
      have HT : Hid (∀ W, Below wr.heap.size wr W → CopyOk 54 (kid L k) h W) := fun W hb => spec_copy B (tsize (kid L k) + 1) (kid L k) h W (by omega) (by have := HZ.out; omega) (hnode.below hb)
      have hnn := hM.out.len HZ.out
      obtain ⟨x, hx⟩ : ∃ x, x = kid L k := ⟨_, rfl⟩
      rw [← hx] at hc0 hc1 hc2 hc3 hc4 hc5 hc6 hc7 HT
      have HX : Hid _ := hx
      subst ha
      clear hc hnode hkz hx
      rcases Classical.em (x.kind = 2) with h1 | h1
      · rcases Classical.em (x.text = ⟨#[]⟩) with h2 | h2
        · go_wp2
          exact ⟨⟨k + 1, n, g, c, P, G, by omega, by go_num, rfl, (hM.out.below ((Below.refl _ _).alloc (Nat.le_refl _) _)).skip hlt HX.out h1 h2⟩, by simp [intOf]; omega⟩
        have he := text_ne h2
        rcases n with _ | m
        rotate_left
        · obtain ⟨R, y, rfl, rfl⟩ := snoc_cases hM.out.row.len
          have hq := fun (o : Obj) q hq => (hM.out.row.below ((Below.refl _ _).alloc (Nat.le_refl _) o)).cells (i := R.length) (by omega) q hq
          simp only [th0_last] at hq
          have q0 : ∀ o, (wr.alloc o).cell? ⟨g, R.length * 8, none⟩ = some (.int .i64 y.1.kind) := fun o => hq o 0 (by omega)
          have q7 : ∀ o, (wr.alloc o).cell? ⟨g, R.length * 8 + 7, none⟩ = some (.string y.1.text) := fun o => hq o 7 (by omega)
          have fz : ∀ o j, (wr.alloc o).frozen? ⟨g, j, none⟩ = false := fun o j => World.ownsRow.frozenAt (hM.out.row.below ((Below.refl _ _).alloc (Nat.le_refl _) o)).own j
          clear hq
          rcases Classical.em (y.1.kind = 2) with h3 | h3
          · have hroom := hM.out.room hlt HZ.out
            rw [← HX.out] at hroom
            go_wp2_with fail
            go_region
            all_goals go_wp2
            all_goals exact ⟨⟨k + 1, R.length + 1, g, c, _, G, by omega, by go_num, rfl, (hM.out.below (((Below.refl _ _).alloc (Nat.le_refl _) _).drew)).join HZ.out hlt HX.out h1 h2 h3⟩, by simp [intOf]; omega⟩
          have HC : Hid (x.kind = 2 → ¬ x.text = ⟨#[]⟩ ∧ (0 < R.length + 1 → ¬ (th0 (R ++ [y]) (R.length + 1 - 1)).1.kind = 2)) := fun _ => ⟨h2, fun _ => by rw [Nat.add_sub_cancel, th0_last]; exact h3⟩
          go_wp2_with fail
          clear q0 q7 fz
          have hT := HT.out _ ((Below.refl _ _).alloc (Nat.le_refl _) (.cells (vals x h) 28))
          unfold CopyOk vals at hT
          try rw [h1] at hT
          refine Calls.mono hT ?_
          rintro e w2 ⟨⟨h', rfl, hn2⟩, hb2⟩
          have HN2 : Hid (OwnN w2 x h' (Rng wr w2)) := hn2.sub (Rng.wide (by simp) (Nat.le_refl _))
          have HB2 : Hid (Below wr.heap.size wr w2) := ((Below.refl _ _).alloc (Nat.le_refl _) _).trans (hb2.mono (by simp))
          clear hb2 hn2 hT HT hc0 hc1 hc2 hc3 hc4 hc5 hc6 hc7
          have HA : Hid (∀ o, Below w2.heap.size w2 (w2.alloc o)) := fun o => (Below.refl _ _).alloc (Nat.le_refl _) o
          have HR3 : Hid (∀ o, RowV (w2.alloc o) w.heap.size g _ c _ G) := fun o => (hM.out.row.below HB2.out).below (HA.out o)
          have HN3 : Hid (∀ o, OwnN (w2.alloc o) x h' (Rng wr w2)) := fun o => HN2.out.below (HA.out o)
          have HF3 : Hid (∀ o, Inc (Rng wr w2) (fun b => w.heap.size ≤ b ∧ b < (w2.alloc o).heap.size)) := fun o b hb => ⟨Nat.le_trans hM.out.bel.size hb.1, Nat.lt_of_lt_of_le hb.2 (HA.out o).size⟩
          have HG3 : Hid (¬ Rng wr w2 g) := fun hb => by have := hM.out.row.lt; have := hb.1; omega
          have HA3 : Hid (∀ i, Apart (G i) (Rng wr w2)) := fun i b hb hc => by have := (hM.out.row.rng i b hb).2; have := hc.1; omega
          have HBW : Hid (Below w.heap.size w w2) := hM.out.bel.trans (HB2.out.mono hM.out.bel.size)
          have hBW : ∀ o, w.heap.size ≤ (w2.alloc o).heap.size := fun o => Nat.le_trans HBW.out.size (HA.out o).size
          go_wp2_with (at_builtin; refine add_node_eq w.heap.size g _ c _ G (x, h') (Rng wr w2) _ _ (by first | rfl | (show _ = vals x h'; unfold vals; rw [h1])) (HR3.out _) (hBW _) (by omega) (HN3.out _) (HF3.out _) HG3.out HA3.out (by rfl) _ _ (by rfl) (by rfl) _ (by rfl) (by simp) ?_; rintro g' c' w4 hR4 hb4 hs4)
          have HM4 : Hid _ := hM.out.add hlt HX.out HC.out hR4 ((HBW.out.alloc HBW.out.size _).trans hb4)
          clear hR4 hb4 hs4 hBW HR3 HN3 HF3
          go_wp2
          exact ⟨⟨k + 1, _, g', c', _, _, by omega, by go_num, rfl, HM4.out⟩, by simp [intOf]; omega⟩
        · have HC : Hid (x.kind = 2 → ¬ x.text = ⟨#[]⟩ ∧ (0 < 0 → ¬ (th0 P (0 - 1)).1.kind = 2)) := fun _ => ⟨h2, fun h => absurd h (by omega)⟩
          go_wp2_with fail
          have hT := HT.out _ ((Below.refl _ _).alloc (Nat.le_refl _) (.cells (vals x h) 28))
          unfold CopyOk vals at hT
          try rw [h1] at hT
          refine Calls.mono hT ?_
          rintro e w2 ⟨⟨h', rfl, hn2⟩, hb2⟩
          have HN2 : Hid (OwnN w2 x h' (Rng wr w2)) := hn2.sub (Rng.wide (by simp) (Nat.le_refl _))
          have HB2 : Hid (Below wr.heap.size wr w2) := ((Below.refl _ _).alloc (Nat.le_refl _) _).trans (hb2.mono (by simp))
          clear hb2 hn2 hT HT hc0 hc1 hc2 hc3 hc4 hc5 hc6 hc7
          have HA : Hid (∀ o, Below w2.heap.size w2 (w2.alloc o)) := fun o => (Below.refl _ _).alloc (Nat.le_refl _) o
          have HR3 : Hid (∀ o, RowV (w2.alloc o) w.heap.size g _ c _ G) := fun o => (hM.out.row.below HB2.out).below (HA.out o)
          have HN3 : Hid (∀ o, OwnN (w2.alloc o) x h' (Rng wr w2)) := fun o => HN2.out.below (HA.out o)
          have HF3 : Hid (∀ o, Inc (Rng wr w2) (fun b => w.heap.size ≤ b ∧ b < (w2.alloc o).heap.size)) := fun o b hb => ⟨Nat.le_trans hM.out.bel.size hb.1, Nat.lt_of_lt_of_le hb.2 (HA.out o).size⟩
          have HG3 : Hid (¬ Rng wr w2 g) := fun hb => by have := hM.out.row.lt; have := hb.1; omega
          have HA3 : Hid (∀ i, Apart (G i) (Rng wr w2)) := fun i b hb hc => by have := (hM.out.row.rng i b hb).2; have := hc.1; omega
          have HBW : Hid (Below w.heap.size w w2) := hM.out.bel.trans (HB2.out.mono hM.out.bel.size)
          have hBW : ∀ o, w.heap.size ≤ (w2.alloc o).heap.size := fun o => Nat.le_trans HBW.out.size (HA.out o).size
          go_wp2_with (at_builtin; refine add_node_eq w.heap.size g _ c _ G (x, h') (Rng wr w2) _ _ (by first | rfl | (show _ = vals x h'; unfold vals; rw [h1])) (HR3.out _) (hBW _) (by omega) (HN3.out _) (HF3.out _) HG3.out HA3.out (by rfl) _ _ (by rfl) (by rfl) _ (by rfl) (by simp) ?_; rintro g' c' w4 hR4 hb4 hs4)
          have HM4 : Hid _ := hM.out.add hlt HX.out HC.out hR4 ((HBW.out.alloc HBW.out.size _).trans hb4)
          clear hR4 hb4 hs4 hBW HR3 HN3 HF3
          go_wp2
          exact ⟨⟨k + 1, _, g', c', _, _, by omega, by go_num, rfl, HM4.out⟩, by simp [intOf]; omega⟩
      · have HC : Hid (x.kind = 2 → ¬ x.text = ⟨#[]⟩ ∧ (0 < n → ¬ (th0 P (n - 1)).1.kind = 2)) := fun h => absurd h h1
        go_wp2_with fail
        have hT := HT.out _ ((Below.refl _ _).alloc (Nat.le_refl _) (.cells (vals x h) 28))
        unfold CopyOk vals at hT
        try rw [h1] at hT
        refine Calls.mono hT ?_
        rintro e w2 ⟨⟨h', rfl, hn2⟩, hb2⟩
        have HN2 : Hid (OwnN w2 x h' (Rng wr w2)) := hn2.sub (Rng.wide (by simp) (Nat.le_refl _))
        have HB2 : Hid (Below wr.heap.size wr w2) := ((Below.refl _ _).alloc (Nat.le_refl _) _).trans (hb2.mono (by simp))
        clear hb2 hn2 hT HT hc0 hc1 hc2 hc3 hc4 hc5 hc6 hc7
        have HA : Hid (∀ o, Below w2.heap.size w2 (w2.alloc o)) := fun o => (Below.refl _ _).alloc (Nat.le_refl _) o
        have HR3 : Hid (∀ o, RowV (w2.alloc o) w.heap.size g _ c _ G) := fun o => (hM.out.row.below HB2.out).below (HA.out o)
        have HN3 : Hid (∀ o, OwnN (w2.alloc o) x h' (Rng wr w2)) := fun o => HN2.out.below (HA.out o)
        have HF3 : Hid (∀ o, Inc (Rng wr w2) (fun b => w.heap.size ≤ b ∧ b < (w2.alloc o).heap.size)) := fun o b hb => ⟨Nat.le_trans hM.out.bel.size hb.1, Nat.lt_of_lt_of_le hb.2 (HA.out o).size⟩
        have HG3 : Hid (¬ Rng wr w2 g) := fun hb => by have := hM.out.row.lt; have := hb.1; omega
        have HA3 : Hid (∀ i, Apart (G i) (Rng wr w2)) := fun i b hb hc => by have := (hM.out.row.rng i b hb).2; have := hc.1; omega
        have HBW : Hid (Below w.heap.size w w2) := hM.out.bel.trans (HB2.out.mono hM.out.bel.size)
        have hBW : ∀ o, w.heap.size ≤ (w2.alloc o).heap.size := fun o => Nat.le_trans HBW.out.size (HA.out o).size
        go_wp2_with (at_builtin; refine add_node_eq w.heap.size g _ c _ G (x, h') (Rng wr w2) _ _ (by first | rfl | (show _ = vals x h'; unfold vals; rw [h1])) (HR3.out _) (hBW _) (by omega) (HN3.out _) (HF3.out _) HG3.out HA3.out (by rfl) _ _ (by rfl) (by rfl) _ (by rfl) (by simp) ?_; rintro g' c' w4 hR4 hb4 hs4)
        have HM4 : Hid _ := hM.out.add hlt HX.out HC.out hR4 ((HBW.out.alloc HBW.out.size _).trans hb4)
        clear hR4 hb4 hs4 hBW HR3 HN3 HF3
        go_wp2
        exact ⟨⟨k + 1, _, g', c', _, _, by omega, by go_num, rfl, HM4.out⟩, by simp [intOf]; omega⟩
    · obtain rfl : k = L.length := by omega
      have hz := hM.out.sz
      have hv := hM.out.val
      have hl := hM.out.row.len
      rw [List.take_length] at hv
      rw [List.drop_length, nszs] at hz
      subst hl
      go_wp2
      go_ret
      exact ⟨⟨g, c, P, G, rfl, hv, hM.out.row, by omega⟩, hM.out.bel⟩
end Go.Proofs.Ytpejcblmglbjfaa.trees
