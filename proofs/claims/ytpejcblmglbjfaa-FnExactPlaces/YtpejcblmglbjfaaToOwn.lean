/-
  toNode and toNodeS answer what they own.
-/
import Derived.Test.YtpejcblmglbjfaaNodeTo
import Derived.Test.YtpejcblmglbjfaaImplCopy
namespace Go.Proofs.Ytpejcblmglbjfaa.trees
open Go.ChangeShapes Go.WideShapes Go.ChangeAt Go.RowKit
open pairs (Pair at0 PairsAt)
set_option linter.unusedVariables false
/-- A row of the call's own, the first k of whose nodes are there. -/
structure RowD (w : World) (g : Nat) (L : List Tree) (G : Nat → Bset) (k : Nat) : Prop where
  all : ∃ (cur : Array Value) (ty : TypeId), w.heap[g]? = some (.cells cur ty (0, 0)) ∧ L.length * 8 ≤ cur.size ∧ ∀ j, j < k → ∃ h, OwnN w (kid L j) h (G j) ∧ ∀ q, q < 8 → cur[j * 8 + q]? = (vals (kid L j) h)[q]?
  rng : ∀ i, Inc (G i) (fun b => g < b ∧ b < w.heap.size)
  apart : ∀ i j, i ≠ j → Apart (G i) (G j)
  free : ∀ j, k ≤ j → ∀ b, ¬ G j b
theorem RowD.lt {w : World} {g : Nat} {L : List Tree} {G : Nat → Bset} {k : Nat} (h : RowD w g L G k) : g < w.heap.size := by
  obtain ⟨cur, ty, hg, _⟩ := h.all
  exact pairs.lt_heap hg
theorem RowD.below {w w' : World} {g : Nat} {L : List Tree} {G : Nat → Bset} {k : Nat} (h : RowD w g L G k) (hb : Below w.heap.size w w') : RowD w' g L G k := by
  obtain ⟨cur, ty, hg, hr, hd⟩ := h.all
  refine ⟨⟨cur, ty, (hb.block g (pairs.lt_heap hg)).trans hg, hr, fun j hj => ?_⟩, fun i b hb' => ⟨(h.rng i b hb').1, Nat.lt_of_lt_of_le (h.rng i b hb').2 hb.size⟩, h.apart, h.free⟩
  obtain ⟨h', e1, e2⟩ := hd j hj
  exact ⟨h', e1.below hb, e2⟩
theorem RowD.cell {w : World} {g : Nat} {L : List Tree} {G : Nat → Bset} {k : Nat} (h : RowD w g L G k) (hk : k < L.length) (q : Nat) (hq : q < 8) : ∃ c, w.cell? ⟨g, k * 8 + q, none⟩ = some c := by
  obtain ⟨cur, ty, hg, hr, hd⟩ := h.all
  exact ⟨cur[k * 8 + q]'(by omega), by simp [World.cell?, hg]⟩
theorem RowD.froz {w : World} {g : Nat} {L : List Tree} {G : Nat → Bset} {k : Nat} (h : RowD w g L G k) (j : Nat) : w.frozen? ⟨g, j, none⟩ = false := by
  obtain ⟨cur, ty, hg, hr, hd⟩ := h.all
  simp [World.frozen?, hg]
theorem RowD.own {w : World} {g : Nat} {L : List Tree} {G : Nat → Bset} (h : RowD w g L G L.length) : OwnL w (some ⟨g, 0, none⟩) L (fun b => g ≤ b ∧ b < w.heap.size) := fun _ => by
  obtain ⟨cur, ty, hg, hr, hd⟩ := h.all
  exact ⟨g, cur, ty, G, rfl, ⟨Nat.le_refl _, h.lt⟩, hg, hr, fun i b hb => ⟨Nat.le_of_lt (h.rng i b hb).1, (h.rng i b hb).2⟩, fun i hb => by have := (h.rng i _ hb).1; omega, h.apart, hd⟩
theorem RowD.next {w : World} {g : Nat} {L : List Tree} {G : Nat → Bset} {k : Nat} {F : Bset} {h : Hdr} {t : Tree} (hr : RowD w g L G k) (hk : k < L.length) (ht : t = kid L k) (hn : OwnN w t h F) (hF : Inc F (fun b => g < b ∧ b < w.heap.size)) (hFa : ∀ i, Apart (G i) F) :
    RowD ((((((((w.setCell ⟨g, k * 8, none⟩ (.int .i64 t.kind)).setCell ⟨g, k * 8 + 1, none⟩ (.string t.pre)).setCell ⟨g, k * 8 + 2, none⟩ (.string t.loc)).setCell ⟨g, k * 8 + 3, none⟩ (.string t.uri)).setCell ⟨g, k * 8 + 4, none⟩ (.slice h.da t.ds.length h.dc)).setCell ⟨g, k * 8 + 5, none⟩ (.slice h.aa t.ats.length h.ac)).setCell ⟨g, k * 8 + 6, none⟩ (.slice h.ka t.kids.length h.kc)).setCell ⟨g, k * 8 + 7, none⟩ (.string t.text)) g L (fun i => if i = k then F else G i) (k + 1) := by
  obtain ⟨cur, ty, hg, hrm, hd⟩ := hr.all
  have ho : Out (fun b => b = g) w ((((((((w.setCell ⟨g, k * 8, none⟩ (.int .i64 t.kind)).setCell ⟨g, k * 8 + 1, none⟩ (.string t.pre)).setCell ⟨g, k * 8 + 2, none⟩ (.string t.loc)).setCell ⟨g, k * 8 + 3, none⟩ (.string t.uri)).setCell ⟨g, k * 8 + 4, none⟩ (.slice h.da t.ds.length h.dc)).setCell ⟨g, k * 8 + 5, none⟩ (.slice h.aa t.ats.length h.ac)).setCell ⟨g, k * 8 + 6, none⟩ (.slice h.ka t.kids.length h.kc)).setCell ⟨g, k * 8 + 7, none⟩ (.string t.text)) :=
    ((((((((Out.refl _ w).set (F := fun b => b = g) rfl _ _).set (F := fun b => b = g) rfl _ _).set (F := fun b => b = g) rfl _ _).set (F := fun b => b = g) rfl _ _).set (F := fun b => b = g) rfl _ _).set (F := fun b => b = g) rfl _ _).set (F := fun b => b = g) rfl _ _).set (F := fun b => b = g) rfl _ _
  have hG : ∀ i, Apart (if i = k then F else G i) (fun b => b = g) := fun i b hb e => by
    by_cases hi : i = k
    · rw [if_pos hi] at hb; have := (hF b hb).1; omega
    · rw [if_neg hi] at hb; have := (hr.rng i b hb).1; omega
  refine ⟨⟨set8 cur k (.int .i64 t.kind) (.string t.pre) (.string t.loc) (.string t.uri) (.slice h.da t.ds.length h.dc) (.slice h.aa t.ats.length h.ac) (.slice h.ka t.kids.length h.kc) (.string t.text), ty, pairs.block_set _ (pairs.block_set _ (pairs.block_set _ (pairs.block_set _ (pairs.block_set _ (pairs.block_set _ (pairs.block_set _ (pairs.block_set _ hg))))))), by simpa [set8] using hrm, fun j hj => ?_⟩, fun i b hb => ?_, fun i j hij b hb hc => ?_, fun j hj b hb => ?_⟩
  · by_cases e : j = k
    · subst e ht
      refine ⟨h, ?_, fun q hq => ?_⟩
      · have := hG j
        rw [if_pos rfl] at this ⊢
        exact hn.out ho this
      · exact set8_in cur j _ _ _ _ _ _ _ _ (by omega) q hq
    · obtain ⟨h', e1, e2⟩ := hd j (by omega)
      refine ⟨h', ?_, fun q hq => ?_⟩
      · have := hG j
        rw [if_neg e] at this ⊢
        exact e1.out ho this
      · rw [set8_out cur k j _ _ _ _ _ _ _ _ e q hq]
        exact e2 q hq
  · by_cases hi : i = k
    · rw [if_pos hi] at hb; exact ⟨(hF b hb).1, Nat.lt_of_lt_of_le (hF b hb).2 ho.size⟩
    · rw [if_neg hi] at hb; exact ⟨(hr.rng i b hb).1, Nat.lt_of_lt_of_le (hr.rng i b hb).2 ho.size⟩
  · by_cases hi : i = k
    · rw [if_pos hi] at hb
      rw [if_neg (by omega)] at hc
      exact hFa j b hc hb
    · rw [if_neg hi] at hb
      by_cases hj : j = k
      · rw [if_pos hj] at hc; exact hFa i b hb hc
      · rw [if_neg hj] at hc; exact hr.apart i j hij b hb hc
  · rw [if_neg (by omega)] at hb
    exact hr.free j (by omega) b hb
theorem rowD_new {w : World} {B g cap : Nat} {t : TypeId} {L : List Tree} {xs : List Value} (h : w.ownsRow B t 8 (.slice (some ⟨g, 0, none⟩) L.length cap) L.length xs) (hc : cap = L.length) : RowD w g L (fun _ _ => False) 0 := by
  rcases h.2 with ⟨h', _⟩ | ⟨g', cap', cur, h', _, hg, _, _, hs, _⟩
  · cases h'
  · cases h'
    subst hc
    exact ⟨⟨cur, t, hg, by omega, fun j hj => by omega⟩, fun i b hb => hb.elim, fun i j _ b hb _ => hb, fun j _ b hb => hb⟩
/-- What toNode answers. -/
def ToOwn (t : Tree) (h : Hdr) (w : World) : Prop :=
  Calls Try.prog 31 #[.agg (vals t h)] w fun e w' => (∃ h', e = .returned (.agg (vals t h')) ∧ OwnN w' t h' (Rng w w')) ∧ Below w.heap.size w w'
def ToOwns (L : List Tree) (a : Option Addr) (cap : Nat) (w : World) : Prop :=
  Calls Try.prog 39 #[.slice a L.length cap] w fun e w' => (∃ g, e = .returned (.slice (some ⟨g, 0, none⟩) L.length L.length) ∧ OwnL w' (some ⟨g, 0, none⟩) L (Rng w w')) ∧ Below w.heap.size w w'
set_option maxRecDepth 100000 in
set_option maxHeartbeats 4000000 in
theorem to_owns_of (n B : Nat) (ih : ∀ t h w, tsize t < n → nsz t ≤ 1048576 → NodeIn w B t h → ToOwn t h w) (w : World) (a : Option Addr) (L : List Tree) (cap : Nat) (hn : ksize L < n) (hz : nszs L ≤ 1048576) (hL : Hid (NodesAt w B a L)) :
    ToOwns L a cap w := by
  unfold ToOwns
  have HZ : Hid _ := hz
  have hlz : L.length ≤ 1048576 := by have := nszs_eq L; omega
  clear hz
  have HIH : Hid (∀ t h w, tsize t < n → nsz t ≤ 1048576 → NodeIn w B t h → ToOwn t h w) := ih
  clear ih
  go_enter Try.func39, Try.ntmps39
  go_wp2
  obtain ⟨i0, hi, hz0, hz1, hz2⟩ := info_parts info_node
  obtain ⟨w1, hrun, hown, hgr⟩ := run_make_full (P := Try.prog) w w.heap.size 26 28 i0 (.agg #[.int .i64 0, .string ⟨#[]⟩, .string ⟨#[]⟩, .string ⟨#[]⟩, .slice none 0 0, .slice none 0 0, .slice none 0 0, .string ⟨#[]⟩]) 8 Try.underlying26 hi hz0 hz1 .i64 .i64 L.length (by rw [hz2]; omega) (by unfold maxLen; omega) (Nat.le_refl _)
  refine pairs.upon_of_run hrun ?_
  have hm : RowD w1 w.heap.size L (fun _ _ => False) 0 := rowD_new hown rfl
  have HM : Hid _ := hm
  have HB : Hid (Below w.heap.size w w1) := (Below.refl _ _).grown hgr (Nat.le_refl _) (fun k hk => by cases hk)
  clear hm hrun hown hgr
  go_wp2
  go_loopw [4] (fun t wr => ∃ (k : Nat) (G : Nat → Bset), k ≤ L.length ∧ t = .int .i64 k ∧ Hid (RowD wr w.heap.size L G k) ∧ Hid (Below w.heap.size w wr)) (fun t _ => L.length - (intOf t).toNat)
  case atStart => exact ⟨0, _, Nat.zero_le _, rfl, HM, HB⟩
  case round =>
    obtain ⟨k, G, hk, rfl, hmr, hbw⟩ := hrel
    by_cases hlt : k < L.length
    · obtain ⟨b, off, ha, hblt, hc⟩ := (hL.out.below hbw.out).row (by omega)
      obtain ⟨h, hnode, hc0, hc1, hc2, hc3, hc4, hc5, hc6, hc7⟩ := hc k hlt
      have hks := ksize_kid L k hlt
      have hkz := nsz_kid L k hlt
      have hT := HIH.out (kid L k) h wr (by omega) (by have := HZ.out; omega) hnode
      unfold ToOwn at hT
      unfold vals at hT
      obtain ⟨x, hx⟩ : ∃ x, x = kid L k := ⟨_, rfl⟩
      have HX : Hid _ := hx
      rw [← hx] at hc0 hc1 hc2 hc3 hc4 hc5 hc6 hc7 hT
      subst ha
      have HT : Hid _ := hT
      have HGR : Hid (w.heap.size < wr.heap.size) := hmr.out.lt
      have HRG : Hid (∀ j, Inc (G j) (fun b => w.heap.size < b ∧ b < wr.heap.size)) := hmr.out.rng
      clear hT hc hnode hks hkz hx
      go_wp2_with fail
      refine Calls.mono HT.out ?_
      rintro e w2 ⟨⟨h', rfl, hn2⟩, hb2⟩
      have HR2 : Hid _ := hmr.out.below hb2
      obtain ⟨c0, hd0⟩ := HR2.out.cell hlt 0 (by omega)
      obtain ⟨c1, hd1⟩ := HR2.out.cell hlt 1 (by omega)
      obtain ⟨c2, hd2⟩ := HR2.out.cell hlt 2 (by omega)
      obtain ⟨c3, hd3⟩ := HR2.out.cell hlt 3 (by omega)
      obtain ⟨c4, hd4⟩ := HR2.out.cell hlt 4 (by omega)
      obtain ⟨c5, hd5⟩ := HR2.out.cell hlt 5 (by omega)
      obtain ⟨c6, hd6⟩ := HR2.out.cell hlt 6 (by omega)
      obtain ⟨c7, hd7⟩ := HR2.out.cell hlt 7 (by omega)
      rw [Nat.add_zero] at hd0
      have hfz := HR2.out.froz
      have HB2 : Hid _ := hbw.out.trans (hb2.mono hbw.out.size)
      have HNX : Hid _ := HR2.out.next hlt HX.out hn2 (fun b hb => ⟨Nat.lt_of_lt_of_le HGR.out hb.1, hb.2⟩) (fun j b hb hc => by have := (HRG.out j b hb).2; have := hc.1; omega)
      clear hb2 hn2 HT
      go_wp2
      go_roundw
      case rel => exact ⟨k + 1, _, by omega, by go_num, HNX.out, pairs.below_set (pairs.below_set (pairs.below_set (pairs.below_set (pairs.below_set (pairs.below_set (pairs.below_set (pairs.below_set HB2.out (Nat.le_refl _)) (Nat.le_refl _)) (Nat.le_refl _)) (Nat.le_refl _)) (Nat.le_refl _)) (Nat.le_refl _)) (Nat.le_refl _)) (Nat.le_refl _)⟩
      case measure => simp [intOf]; omega
    · have HF : Hid (RowD wr w.heap.size L G L.length) := by
        have h1 := hmr.out
        rw [show k = L.length by omega] at h1
        exact h1
      go_wp2
      go_ret
      exact ⟨⟨_, rfl, HF.out.own⟩, hbw.out⟩
set_option maxRecDepth 100000 in
set_option maxHeartbeats 4000000 in
theorem to_own_of (n B : Nat) (ihS : ∀ (w : World) (a : Option Addr) (L : List Tree) (cap : Nat), ksize L < n → nszs L ≤ 1048576 → NodesAt w B a L → ToOwns L a cap w)
    (t : Tree) (h : Hdr) (w : World) (ht : tsize t ≤ n) (hz : nsz t ≤ 1048576) (hn : NodeIn w B t h) : ToOwn t h w := by
  obtain ⟨k, p, l, u, x, ds, ats, ks⟩ := t
  obtain ⟨da, dc, aa, ac, ka, kc⟩ := h
  have HD : Hid (PairsAt w da ds) := hn.decls
  have HA : Hid (AttsAt w aa ats) := hn.atts
  have HK : Hid (NodesAt w B ka ks) := kids_at hn
  have HFT : Hid (Tree.fits (.mk k p l u x ds ats ks)) := hn.fit
  have HKS : Hid (ksize ks < n) := by rw [tsize] at ht; show _ < _; omega
  rw [nsz] at hz
  have HZD : Hid (ds.length ≤ 1048576) := by show _ ≤ _; omega
  have HZA : Hid (ats.length ≤ 1048576) := by unfold smallA at hz; show _ ≤ _; omega
  have HZK : Hid (nszs ks ≤ 1048576) := by show _ ≤ _; omega
  have HIS : Hid _ := ihS
  unfold ToOwn
  simp only [vals, Tree.kind, Tree.pre, Tree.loc, Tree.uri, Tree.text, Tree.ds, Tree.ats, Tree.kids]
  clear ihS hn ht hz
  go_enter Try.func31, Try.ntmps31
  have HT0 : Hid (Tb w (((w.alloc (.cells #[.int .i64 k, .string p, .string l, .string u, .slice da ds.length dc, .slice aa ats.length ac, .slice ka ks.length kc, .string x] 52)).alloc (.cells #[.int .i64 0, .string ⟨#[]⟩, .string ⟨#[]⟩, .string ⟨#[]⟩, .slice none 0 0, .slice none 0 0, .slice none 0 0, .string ⟨#[]⟩] 28)).alloc (.cells #[.int .i64 k, .string p, .string l, .string u, .slice none 0 0, .slice none 0 0, .slice none 0 0, .string ⟨#[]⟩] 28)) #[.int .i64 k, .string p, .string l, .string u, .slice da ds.length dc, .slice aa ats.length ac, .slice ka ks.length kc, .string x] #[.int .i64 k, .string p, .string l, .string u, .slice none 0 0, .slice none 0 0, .slice none 0 0, .string ⟨#[]⟩]) := Tb.new w _ _
  go_wp2_with fail
  refine (pairs.mk_DeclS _ da ds dc (HD.out.below (Nat.le_refl _) HT0.out.bel) HZD.out).mono ?_
  rintro e w1 ⟨⟨g1, rfl, hg1, -, hm1⟩, hb1⟩
  have HT1 : Hid _ := HT0.out.below hb1
  have HG1 : Hid (w.heap.size + 3 ≤ g1 ∧ g1 < w1.heap.size) := ⟨Nat.le_trans HT0.out.size hg1, hm1.lt⟩
  obtain ⟨b0, b1, b2, b3, b4, b5, b6, b7⟩ := box8 HT1.out.par
  obtain ⟨o0, o1, o2, o3, o4, o5, o6, o7⟩ := box8 HT1.out.out
  obtain ⟨f0, f1, f2, f3, f4, f5, f6, f7⟩ := box_froz HT1.out.out
  have HT2 : Hid _ := HT1.out.set 4 (.slice (some ⟨g1, 0, none⟩) ds.length ds.length)
  have HM1 : Hid (pairs.Made (w1.setCell ⟨w.heap.size + 1 + 1, 4, none⟩ (.slice (some ⟨g1, 0, none⟩) ds.length ds.length)) g1 ds ds.length) := made_set hm1 (by have := HG1.out.1; omega)
  clear hg1 hm1 hb1
  go_wp2_with fail
  refine (mk_atts _ aa ats ac (HA.out.below (Nat.le_refl _) HT2.out.bel) HZA.out).mono ?_
  rintro e w2 ⟨⟨g2, rfl, hg2, -, hm2⟩, hb2⟩
  have HT3 : Hid _ := HT2.out.below hb2
  have HG2 : Hid (g1 < g2 ∧ g2 < w2.heap.size) := ⟨Nat.lt_of_lt_of_le HG1.out.2 (by rw [set_size] at hg2; exact hg2), pairs.lt_heap hm2.all.choose_spec.choose_spec.1⟩
  have hm1 : pairs.Made w2 g1 ds ds.length := HM1.out.below hb2
  clear HM1 b0 b1 b2 b3 b4 b5 b6 b7 o0 o1 o2 o3 o4 o5 o6 o7 f0 f1 f2 f3 f4 f5 f6 f7
  obtain ⟨b0, b1, b2, b3, b4, b5, b6, b7⟩ := box8 HT3.out.par
  obtain ⟨o0, o1, o2, o3, o4, o5, o6, o7⟩ := box8 HT3.out.out
  obtain ⟨f0, f1, f2, f3, f4, f5, f6, f7⟩ := box_froz HT3.out.out
  have HT4 : Hid _ := HT3.out.set 5 (.slice (some ⟨g2, 0, none⟩) ats.length ats.length)
  have HM1 : Hid (pairs.Made (w2.setCell ⟨w.heap.size + 1 + 1, 5, none⟩ (.slice (some ⟨g2, 0, none⟩) ats.length ats.length)) g1 ds ds.length) := made_set hm1 (by have := HG1.out.1; omega)
  have HM2 : Hid (MadeA (w2.setCell ⟨w.heap.size + 1 + 1, 5, none⟩ (.slice (some ⟨g2, 0, none⟩) ats.length ats.length)) g2 ats ats.length) := madeA_set2 hm2 (by have := HG1.out.1; have := HG2.out.1; omega)
  clear hg2 hm1 hm2 hb2
  go_wp2_with fail
  refine (show Calls _ _ _ _ _ from HIS.out _ ka ks kc HKS.out HZK.out (HK.out.below HT4.out.bel)).mono ?_
  rintro e w3 ⟨⟨g3, rfl, hm3⟩, hb3⟩
  have HT5 : Hid _ := HT4.out.below hb3
  have HM1n : Hid (pairs.Made w3 g1 ds ds.length) := HM1.out.below hb3
  have HM2n : Hid (MadeA w3 g2 ats ats.length) := madeA_below HM2.out hb3
  have HS5 : Hid (w2.heap.size ≤ w3.heap.size) := by have := hb3.size; rw [set_size] at this; exact this
  have HO3 : Hid (OwnL w3 (some ⟨g3, 0, none⟩) ks (fun b => w2.heap.size ≤ b ∧ b < w3.heap.size)) := OwnL.sub hm3 (fun b hb => ⟨by have := hb.1; rw [set_size] at this; exact this, hb.2⟩)
  have HPF : Hid (PFit ds ∧ AFit ats) := ⟨⟨HD.out.short, HD.out.texts⟩, HA.out.short, HA.out.texts⟩
  clear HM1 HM2 b0 b1 b2 b3 b4 b5 b6 b7 o0 o1 o2 o3 o4 o5 o6 o7 f0 f1 f2 f3 f4 f5 f6 f7 hb3 hm3
  obtain ⟨b0, b1, b2, b3, b4, b5, b6, b7⟩ := box8 HT5.out.par
  obtain ⟨o0, o1, o2, o3, o4, o5, o6, o7⟩ := box8 HT5.out.out
  obtain ⟨f0, f1, f2, f3, f4, f5, f6, f7⟩ := box_froz HT5.out.out
  obtain ⟨r0, r1, r2, r3, r4, r5, r6, r7⟩ := box8 HT5.out.res
  obtain ⟨s0, s1, s2, s3, s4, s5, s6, s7⟩ := box_froz HT5.out.res
  go_wp2
  refine bodyPost_ret (by simp [results, Try.results31, go_sem, r0, r1, r2, r3, r4, r5, r6, r7]; try rfl) rfl ?_
  refine ⟨⟨⟨some ⟨g1, 0, none⟩, ds.length, some ⟨g2, 0, none⟩, ats.length, some ⟨g3, 0, none⟩, ks.length⟩, rfl, ?_⟩, pairs.below_set (pairs.below_set (pairs.below_set (pairs.below_set (pairs.below_set (pairs.below_set (pairs.below_set (pairs.below_set (pairs.below_set (pairs.below_set HT5.out.bel (by omega)) (by omega)) (by omega)) (by omega)) (by omega)) (by omega)) (by omega)) (by omega)) (by omega)) (by omega)⟩
  have hz2 := HG1.out
  have hz3 := HG2.out
  have hz4 := HS5.out
  refine copy_parts (s3 := w2.heap.size) ⟨HFT.out, Nat.le_refl _⟩ HPF.out.1 HPF.out.2 HM1n.out HM2n.out HO3.out rfl rfl (by omega) (by omega) (by omega) (by omega) ?_
  exact ((((((((((Out.refl _ _).set (Or.inr rfl) _ _).set (Or.inr rfl) _ _).set (Or.inl rfl) _ _).set (Or.inl rfl) _ _).set (Or.inl rfl) _ _).set (Or.inl rfl) _ _).set (Or.inl rfl) _ _).set (Or.inl rfl) _ _).set (Or.inl rfl) _ _).set (Or.inl rfl) _ _
theorem to_own (B : Nat) : ∀ n, ∀ (t : Tree) (h : Hdr) (w : World), tsize t < n → nsz t ≤ 1048576 → NodeIn w B t h → ToOwn t h w
  | 0, t, h, w, ht, _, _ => by omega
  | n + 1, t, h, w, ht, hz, hn =>
    to_own_of n B (fun w a L cap hk hz hL => to_owns_of n B (fun t h w ht hz hn => to_own B n t h w ht hz hn) w a L cap hk hz hL) t h w (by omega) hz hn
theorem to_owns (B : Nat) (w : World) (a : Option Addr) (L : List Tree) (cap : Nat) (hz : nszs L ≤ 1048576) (hL : NodesAt w B a L) : ToOwns L a cap w :=
  to_owns_of (ksize L + 1) B (fun t h w ht hz hn => to_own B _ t h w ht hz hn) w a L cap (by omega) hz hL
end Go.Proofs.Ytpejcblmglbjfaa.trees
