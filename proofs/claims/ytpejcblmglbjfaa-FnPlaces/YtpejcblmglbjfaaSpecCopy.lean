/-
  What the specification's l5Copy and l5All answer.
-/
import Derived.Test.YtpejcblmglbjfaaCopyP
namespace Go.Proofs.Ytpejcblmglbjfaa.trees
open Go.ChangeShapes Go.WideShapes Go.ChangeAt Go.RowKit
open pairs (Pair at0 PairsAt)
set_option linter.unusedVariables false
/-- What l5All answers. -/
def AllOk (L : List Tree) (a : Option Addr) (cap : Nat) (w : World) : Prop :=
  Calls Try.prog 86 #[.slice a L.length cap] w fun e w' => (∃ g c P G, e = .returned (.slice (some ⟨g, 0, none⟩) L.length c) ∧ trees1 P = L ∧ RowV w' w.heap.size g L.length c P G) ∧ Below w.heap.size w w'
set_option maxRecDepth 100000 in
set_option maxHeartbeats 8000000 in
theorem spec_all_of (n B : Nat) (ih : ∀ t h w, tsize t < n → nsz t ≤ 1048576 → NodeIn w B t h → CopyOk 54 t h w) (L : List Tree) (a : Option Addr) (cap : Nat) (w : World) (hn : ksize L < n) (hz : nszs L ≤ 1048576) (hL : Hid (NodesAt w B a L)) : AllOk L a cap w := by
  have HZ : Hid _ := hz
  have hlz : L.length ≤ 1048576 := by have := nszs_eq L; omega
  clear hz
  have HIH : Hid (∀ t h w, tsize t < n → nsz t ≤ 1048576 → NodeIn w B t h → CopyOk 54 t h w) := ih
  clear ih
  unfold AllOk
  go_enter Try.func86, Try.ntmps86
  go_wp2
  have HR0 : Hid _ := new_row w
  have HB0 : Hid (Below w.heap.size w (w.alloc (.cells #[] 28))) := (Below.refl _ _).alloc (Nat.le_refl _) _
  go_loopw [3, 4] (fun q t wr => ∃ (k g c : Nat) (P : List TH) (G : Nat → Bset), k ≤ L.length ∧ t = .int .i64 k ∧ q = .slice (some ⟨g, 0, none⟩) k c ∧ Hid (trees1 P = L.take k) ∧ Hid (RowV wr w.heap.size g k c P G) ∧ Hid (Below w.heap.size w wr)) (fun _ t _ => L.length - (intOf t).toNat)
  case atStart => exact ⟨0, _, _, [], fun _ _ => False, Nat.zero_le _, rfl, rfl, rfl, HR0, HB0⟩
  case round =>
    obtain ⟨k, g, c, P, G, hk, rfl, rfl, hP, hR, hbw⟩ := hrel
    by_cases hlt : k < L.length
    · obtain ⟨b, off, ha, hblt, hc⟩ := (hL.out.below hbw.out).row (by omega)
      obtain ⟨h, hnode, hc0, hc1, hc2, hc3, hc4, hc5, hc6, hc7⟩ := hc k hlt
      have hks := ksize_kid L k hlt
      have hkz := nsz_kid L k hlt
      have hT := HIH.out (kid L k) h wr (by omega) (by have := HZ.out; omega) hnode
      unfold CopyOk at hT
      unfold vals at hT
      obtain ⟨x, hx⟩ : ∃ x, x = kid L k := ⟨_, rfl⟩
      have HX : Hid (L.take (k + 1) = L.take k ++ [x]) := by show _ = _; rw [hx]; exact kid_take hlt
      rw [← hx] at hc0 hc1 hc2 hc3 hc4 hc5 hc6 hc7 hT
      subst ha
      have HT : Hid _ := hT
      clear hT hc hnode hks hkz hx
      go_wp2_with fail
      refine Calls.mono HT.out ?_
      rintro e w2 ⟨⟨h', rfl, hn2⟩, hb2⟩
      have HN2 : Hid (OwnN w2 x h' (Rng wr w2)) := hn2
      have HB2 : Hid (Below wr.heap.size wr w2) := hb2
      clear hb2 hn2 HT hc0 hc1 hc2 hc3 hc4 hc5 hc6 hc7
      have HA : Hid (∀ o, Below w2.heap.size w2 (w2.alloc o)) := fun o => (Below.refl _ _).alloc (Nat.le_refl _) o
      have HR3 : Hid (∀ o, RowV (w2.alloc o) w.heap.size g k c P G) := fun o => (hR.out.below HB2.out).below (HA.out o)
      have HN3 : Hid (∀ o, OwnN (w2.alloc o) x h' (Rng wr w2)) := fun o => HN2.out.below (HA.out o)
      have HF3 : Hid (∀ o, Inc (Rng wr w2) (fun b => w.heap.size ≤ b ∧ b < (w2.alloc o).heap.size)) := fun o b hb => ⟨Nat.le_trans hbw.out.size hb.1, Nat.lt_of_lt_of_le hb.2 (HA.out o).size⟩
      have HG3 : Hid (¬ Rng wr w2 g) := fun hb => by have := hR.out.lt; have := hb.1; omega
      have HA3 : Hid (∀ i, Apart (G i) (Rng wr w2)) := fun i b hb hc => by have := (hR.out.rng i b hb).2; have := hc.1; omega
      have HBW : Hid (Below w.heap.size w w2) := hbw.out.trans (HB2.out.mono hbw.out.size)
      have hBW : ∀ o, w.heap.size ≤ (w2.alloc o).heap.size := fun o => Nat.le_trans HBW.out.size (HA.out o).size
      go_wp2_with (at_builtin; refine add_node w.heap.size g k c P G (x, h') (Rng wr w2) _ (HR3.out _) (hBW _) (by omega) (HN3.out _) (HF3.out _) HG3.out HA3.out (by rfl) _ _ (by rfl) (by rfl) _ (by rfl) (by simp) ?_; rintro g' c' w4 hR4 hb4 hs4)
      have HR4 : Hid _ := hR4
      have HB4 : Hid (Below w.heap.size w w4) := (HBW.out.alloc HBW.out.size _).trans hb4
      have HP4 : Hid (trees1 (P ++ [(x, h')]) = L.take (k + 1)) := by show _ = _; rw [trees1_append, hP.out, HX.out]; rfl
      clear hR4 hb4 hs4 hBW HR3 HN3 HF3
      go_wp2
      go_roundw
      case rel => exact ⟨k + 1, g', c', P ++ [(x, h')], _, by omega, by go_num, rfl, HP4.out, HR4.out, HB4.out⟩
      case measure => simp [intOf]; omega
    · obtain rfl : k = L.length := by omega
      have HP : Hid (trees1 P = L) := by show _ = _; rw [hP.out, List.take_length]
      go_wp2
      go_ret
      exact ⟨⟨g, c, P, G, rfl, HP.out, hR.out⟩, hbw.out⟩
set_option maxRecDepth 100000 in
set_option maxHeartbeats 8000000 in
theorem spec_copy_of (n B : Nat) (ihS : ∀ (L : List Tree) (a : Option Addr) (cap : Nat) (w : World), ksize L < n → nszs L ≤ 1048576 → NodesAt w B a L → AllOk L a cap w)
    (t : Tree) (h : Hdr) (w : World) (ht : tsize t ≤ n) (hz : nsz t ≤ 1048576) (hn : NodeIn w B t h) : CopyOk 54 t h w := by
  obtain ⟨k, p, l, u, x, ds, ats, ks⟩ := t
  obtain ⟨da, dc, aa, ac, ka, kc⟩ := h
  have HD : Hid (PairsAt w da ds) := hn.decls
  have HA : Hid (AttsAt w aa ats) := hn.atts
  have HK : Hid (NodesAt w B ka ks) := kids_at hn
  have HFT : Hid (Tree.fits (.mk k p l u x ds ats ks)) := hn.fit
  have HKS : Hid (ksize ks < n) := by rw [tsize] at ht; show _ < _; omega
  rw [nsz] at hz
  have HZD : Hid (ds.length ≤ 1048576) := by show _ ≤ _; omega
  have HZA : Hid (ats.length ≤ 1048576) := by unfold smallA at hz; show _ ≤ _; omega
  have HZK : Hid (nszs ks ≤ 1048576) := by show _ ≤ _; omega
  have HIS : Hid _ := ihS
  unfold CopyOk
  simp only [vals, Tree.kind, Tree.pre, Tree.loc, Tree.uri, Tree.text, Tree.ds, Tree.ats, Tree.kids]
  clear ihS hn ht hz
  go_enter Try.func54, Try.ntmps54
  have HT0 : Hid (T3 w _ #[.int .i64 k, .string p, .string l, .string u, .slice da ds.length dc, .slice aa ats.length ac, .slice ka ks.length kc, .string x] #[.int .i64 k, .string p, .string l, .string u, .slice da ds.length dc, .slice aa ats.length ac, .slice ka ks.length kc, .string x]) := T3.new w _ _
  obtain ⟨W3, hW3⟩ : ∃ W3, ((w.alloc (.cells #[.int .i64 k, .string p, .string l, .string u, .slice da ds.length dc, .slice aa ats.length ac, .slice ka ks.length kc, .string x] 28)).alloc (.cells #[.int .i64 0, .string ⟨#[]⟩, .string ⟨#[]⟩, .string ⟨#[]⟩, .slice none 0 0, .slice none 0 0, .slice none 0 0, .string ⟨#[]⟩] 28)).alloc (.cells #[.int .i64 k, .string p, .string l, .string u, .slice da ds.length dc, .slice aa ats.length ac, .slice ka ks.length kc, .string x] 28) = W3 := ⟨_, rfl⟩
  rw [hW3] at HT0
  have HS3 : Hid (w.heap.size + 3 ≤ W3.heap.size) := HT0.out.size
  have HAL : Hid (∀ o, Below W3.heap.size W3 (W3.alloc o)) := fun o => (Below.refl _ _).alloc (Nat.le_refl _) o
  have p4 : ∀ o, (W3.alloc o).cell? ⟨w.heap.size, 4, none⟩ = some (.slice da ds.length dc) := fun o => (box8 (HT0.out.below (HAL.out o)).par).2.2.2.2.1
  go_wp2_with (first
    | (at_builtin; refine app_Attr w1.heap.size _ ats aa ac (new_AttrQ _ w1.heap.size ?q1) (HA.out.below (Nat.le_refl _) ((HT2.out.bel.alloc HT2.out.bel.size _))) ?q2 ?q3 ?q4 (by rfl) _ _ (by rfl) (by rfl) (by rfl) ?q5; (case q1 => simp); (case q2 => have := HZA.out; omega); (case q3 => simp); (case q4 => simp); rintro v2 w2 ho2 hb2 hv2; obtain ⟨g2, c2, rfl, hg2, hl2, hm2⟩ := own_madeA ho2 hv2; have HS2 : Hid (w1.heap.size ≤ w2.heap.size) := Nat.le_trans (by simp) hb2.size; have HT3 : Hid _ := HT2.out.below (((Below.refl _ _).alloc (Nat.le_refl _) _).trans (hb2.mono (by simp))); have HM1b : Hid (pairs.Made w2 g1 ds ds.length) := (made_set HM1.out (by have := HG1.out.1; have := HS3.out; omega)).below (((Below.refl _ _).alloc (Nat.le_refl _) _).trans (hb2.mono (by simp))); have HM2 : Hid (MadeA w2 g2 ats ats.length) := hm2; have HG2 : Hid (w1.heap.size ≤ g2 ∧ g2 < w2.heap.size) := ⟨hg2, hl2⟩; have HT4 : Hid _ := HT3.out.set 5 (.slice (some ⟨g2, 0, none⟩) ats.length c2); clear ho2 hb2 hv2 hg2 hm2 hl2 p5 o0 o1 o2 o3 o4 o5 o6 o7 f0 f1 f2 f3 f4 f5 f6 f7; obtain ⟨o0, o1, o2, o3, o4, o5, o6, o7⟩ := box8 HT3.out.out; obtain ⟨f0, f1, f2, f3, f4, f5, f6, f7⟩ := box_froz HT3.out.out; obtain ⟨b0, b1, b2, b3, b4, b5, b6, b7⟩ := box8 HT3.out.par)
    | (at_builtin; refine pairs.app_Decl W3.heap.size _ [] ds da dc (pairs.new_Decl W3 _ (Nat.le_refl _)) (HD.out.below (Nat.le_refl _) (HT0.out.bel.alloc HT0.out.bel.size _)) (by have := HZD.out; simp; omega) (by simp) (by simp) (by rfl) _ _ (by rfl) (by rfl) (by rfl) ?_; rintro v1 w1 ho1 hb1 hv1; obtain ⟨g1, c1, rfl, hg1, hm1⟩ := ho1.made hv1; have HT1 : Hid _ := HT0.out.below ((HAL.out _).trans (hb1.mono (by simp))); have HM1 : Hid (pairs.Made w1 g1 ds ds.length) := hm1; have HG1 : Hid (W3.heap.size ≤ g1 ∧ g1 < w1.heap.size) := ⟨hg1, hm1.lt⟩; have HT2 : Hid _ := HT1.out.set 4 (.slice (some ⟨g1, 0, none⟩) ds.length c1); have p5 : ∀ o, ((w1.setCell ⟨w.heap.size + 1 + 1, 4, none⟩ (.slice (some ⟨g1, 0, none⟩) ds.length c1)).alloc o).cell? ⟨w.heap.size, 5, none⟩ = some (.slice aa ats.length ac) := fun o => (box8 (HT2.out.below ((Below.refl _ _).alloc (Nat.le_refl _) o)).par).2.2.2.2.2.1; clear ho1 hb1 hv1 hg1 hm1 p4; obtain ⟨o0, o1, o2, o3, o4, o5, o6, o7⟩ := box8 HT1.out.out; obtain ⟨f0, f1, f2, f3, f4, f5, f6, f7⟩ := box_froz HT1.out.out))
  refine Calls.mono (HIS.out ks ka kc _ HKS.out HZK.out (HK.out.below HT4.out.bel)) ?_
  rintro e w5 ⟨⟨g3, c3, P, G, rfl, hP, hR⟩, hb⟩
  have HT5 : Hid _ := HT4.out.below hb
  have HM1c : Hid (pairs.Made w5 g1 ds ds.length) := (made_set HM1b.out (by have := HG1.out.1; have := HS3.out; omega)).below hb
  have HM2c : Hid (MadeA w5 g2 ats ats.length) := madeA_below (madeA_set2 HM2.out (by have := HG2.out.1; have := HG1.out.2; have := HG1.out.1; have := HS3.out; omega)) hb
  have HO3 : Hid (OwnL w5 (some ⟨g3, 0, none⟩) ks (fun b => w2.heap.size ≤ b ∧ b < w5.heap.size)) := by
    have := hR.row
    rw [hP, size_setCell] at this
    exact this
  have HS5 : Hid (w2.heap.size ≤ w5.heap.size) := by have := hb.size; rw [size_setCell] at this; exact this
  have HC3 : Hid (ks.length ≤ c3) := by have h1 := hR.cap; have h2 : P.length = ks.length := by rw [← hP, trees1_len]
                                        show _ ≤ _; omega
  have HPF : Hid (PFit ds ∧ AFit ats) := ⟨⟨HD.out.short, HD.out.texts⟩, HA.out.short, HA.out.texts⟩
  clear hb hP hR b0 b1 b2 b3 b4 b5 b6 b7 o0 o1 o2 o3 o4 o5 o6 o7 f0 f1 f2 f3 f4 f5 f6 f7
  obtain ⟨b0, b1, b2, b3, b4, b5, b6, b7⟩ := box8 HT5.out.par
  obtain ⟨o0, o1, o2, o3, o4, o5, o6, o7⟩ := box8 HT5.out.out
  obtain ⟨f0, f1, f2, f3, f4, f5, f6, f7⟩ := box_froz HT5.out.out
  obtain ⟨r0, r1, r2, r3, r4, r5, r6, r7⟩ := box8 HT5.out.res
  obtain ⟨s0, s1, s2, s3, s4, s5, s6, s7⟩ := box_froz HT5.out.res
  go_wp2
  refine bodyPost_ret (by simp [results, Try.results54, go_sem, r0, r1, r2, r3, r4, r5, r6, r7]; try rfl) rfl ?_
  have hz1 := HS3.out
  have hz2 := HG1.out
  have hz3 := HG2.out
  have hz4 := HS5.out
  refine ⟨⟨⟨some ⟨g1, 0, none⟩, c1, some ⟨g2, 0, none⟩, c2, some ⟨g3, 0, none⟩, c3⟩, rfl, ?_⟩, ?_⟩
  · exact copy_parts (s3 := w2.heap.size) ⟨HFT.out, HC3.out⟩ HPF.out.1 HPF.out.2 HM1c.out HM2c.out HO3.out rfl rfl (by omega) (by omega) (by omega) (by omega) ((((((((((Out.refl _ _).set (Or.inr rfl) _ _).set (Or.inl rfl) _ _).set (Or.inl rfl) _ _).set (Or.inl rfl) _ _).set (Or.inl rfl) _ _).set (Or.inl rfl) _ _).set (Or.inl rfl) _ _).set (Or.inl rfl) _ _).set (Or.inl rfl) _ _)
  · exact (pairs.below_set (pairs.below_set (pairs.below_set (pairs.below_set (pairs.below_set (pairs.below_set (pairs.below_set (pairs.below_set (pairs.below_set HT5.out.bel (by omega)) (by omega)) (by omega)) (by omega)) (by omega)) (by omega)) (by omega)) (by omega)) (by omega))
theorem spec_copy (B : Nat) : ∀ n, ∀ (t : Tree) (h : Hdr) (w : World), tsize t < n → nsz t ≤ 1048576 → NodeIn w B t h → CopyOk 54 t h w
  | 0, t, h, w, ht, _, _ => by omega
  | n + 1, t, h, w, ht, hz, hn =>
    spec_copy_of n B (fun L a cap w hk hz hL => spec_all_of n B (fun t h w ht hz hn => spec_copy B n t h w ht hz hn) L a cap w hk hz hL) t h w (by omega) hz hn
end Go.Proofs.Ytpejcblmglbjfaa.trees
