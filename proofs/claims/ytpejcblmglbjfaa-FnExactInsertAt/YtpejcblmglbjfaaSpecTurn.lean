/-
  What the specification's l10Turn answers.
-/
import Derived.Test.YtpejcblmglbjfaaPutRow
import Derived.Test.YtpejcblmglbjfaaSpecMerge
import Derived.Test.YtpejcblmglbjfaaCalmLast
import Derived.Deep.RegionWith
namespace Go.Proofs.Ytpejcblmglbjfaa.paths
open Go.ChangeShapes Go.WideShapes Go.ChangeAt Go.RowKit
open trees (Tree Hdr vals noTree kid nsz nszs tsize ksize NodeIn NodesAt OwnN OwnL Rng Out T3 box8 box_froz TH th0 cellsN trees1 mergeL MergeOk)
open ints (IntsAt int0 okI)
set_option linter.unusedVariables false
/-- What l10Turn answers, of what lies in w0's memory: a node that stays whatever becomes of the blocks that were made between. -/
def TurnOk (t : Tree) (h : Hdr) (P : List Int) (a : Option Addr) (cap f g : Nat) (L : List Tree) (b : Option Addr) (cl : Nat) (w0 w : World) : Prop :=
  Calls Try.prog 63 #[.agg (vals t h), .slice a P.length cap, .int .i64 f, .int .i64 g, .slice b L.length cl] w fun e w' => (∃ h', e = .returned (.agg (vals (putT t P f g L) h')) ∧ ∀ w'', Out (fun b => w0.heap.size ≤ b ∧ b < w.heap.size) w' w'' → NodeIn w'' 0 (putT t P f g L) h') ∧ Below w.heap.size w w'
set_option maxRecDepth 100000 in
set_option maxHeartbeats 16000000 in
theorem turn_leaf (t : Tree) (h : Hdr) (a : Option Addr) (cap f g : Nat) (L : List Tree) (b : Option Addr) (cl : Nat) (w0 w : World) (hb0 : Below w0.heap.size w0 w) (hz : nsz t + nszs L ≤ 1048576) (hfg : f ≤ g) (hg : g ≤ t.kids.length) (hn0 : NodeIn w0 0 t h) (hL0 : NodesAt w0 0 b L) : TurnOk t h [] a cap f g L b cl w0 w := by
  unfold TurnOk
  have hn := hn0.below hb0
  have hL := hL0.below hb0
  have HN0 : Hid (NodeIn w0 0 t h) := hn0
  have HB0 : Hid (Below w0.heap.size w0 w) := hb0
  clear hn0 hL0 hb0
  have HT0 : Hid (T3 w _ (vals t h) (vals t h)) := T3.new w _ _
  have HN : Hid (NodeIn w 0 t h) := hn
  obtain ⟨K, hK1, hK2⟩ := src_of (trees.kids_at hn)
  obtain ⟨R, hR1, hR2⟩ := src_of hL
  have hroom := hn.room
  have HKL : Hid (K.length = t.kids.length) := by show _ = _; rw [← hK1, trees.trees1_len]
  have HRL : Hid (R.length = L.length) := by show _ = _; rw [← hR1, trees.trees1_len]
  have HK : Hid (trees1 K = t.kids ∧ NSrc w 0 h.ka K) := ⟨hK1, hK2⟩
  have HR : Hid (trees1 R = L ∧ NSrc w 0 b R) := ⟨hR1, hR2⟩
  have HZ : Hid (nsz t + nszs L ≤ 1048576) := hz
  have hkl : t.kids.length ≤ 1048576 := by have := trees.nszs_eq t.kids; have := kids_nsz t; omega
  have hll : L.length ≤ 1048576 := by have := trees.nszs_eq L; omega
  clear hn hL hK1 hK2 hR1 hR2 hz
  obtain ⟨A, hA⟩ : ∃ A : World → Ending → Prop, A = fun w' e => ∃ h', e = .returned (.agg (vals (putT t [] f g L) h')) ∧ ∀ w'', Out (fun b => w0.heap.size ≤ b ∧ b < w.heap.size) w' w'' → NodeIn w'' 0 (putT t [] f g L) h' := ⟨_, rfl⟩
  have HA : Hid (A = _) := hA
  show Calls _ _ _ _ fun e w' => (fun w' e => ∃ h', e = .returned (.agg (vals (putT t [] f g L) h')) ∧ ∀ w'', Out (fun b => w0.heap.size ≤ b ∧ b < w.heap.size) w' w'' → NodeIn w'' 0 (putT t [] f g L) h') w' e ∧ Below w.heap.size w w'
  rw [← hA]
  clear hA
  obtain ⟨k0, p0, l0, u0, x0, ds0, ats0, ks0⟩ := t
  obtain ⟨da0, dc0, aa0, ac0, ka0, kc0⟩ := h
  simp only [vals, Tree.kind, Tree.pre, Tree.loc, Tree.uri, Tree.text, Tree.ds, Tree.ats, Tree.kids] at HT0 HKL HK hroom hkl hg ⊢
  obtain ⟨W3, hW3⟩ : ∃ W3, ((w.alloc (.cells #[.int .i64 k0, .string p0, .string l0, .string u0, .slice da0 ds0.length dc0, .slice aa0 ats0.length ac0, .slice ka0 ks0.length kc0, .string x0] 28)).alloc (.cells #[.int .i64 0, .string ⟨#[]⟩, .string ⟨#[]⟩, .string ⟨#[]⟩, .slice none 0 0, .slice none 0 0, .slice none 0 0, .string ⟨#[]⟩] 28)).alloc (.cells #[.int .i64 k0, .string p0, .string l0, .string u0, .slice da0 ds0.length dc0, .slice aa0 ats0.length ac0, .slice ka0 ks0.length kc0, .string x0] 28) = W3 := ⟨_, rfl⟩
  rw [hW3] at HT0
  go_enter Try.func63, Try.ntmps63
  go_wp2_with fail
  clear hW3
  have hl1 : ∀ W, Below W3.heap.size W3 W → W.heap[w.heap.size]? = _ := fun W hb => (HT0.out.below hb).par
  have hm1 := fun W hb => box8 (hl1 W hb)
  apply quiets.wp_region_mask W3 (Below.refl _ _) [false, true, true, true, true, false, true, false, true, true, true, true] (hm := by kernel_rfl) (hB := by kernel_rfl) (hwalk := ?walk1) (htail := ?tail1)
  case walk1 =>
    intro C hC0 hC1
    simp only [quiets.onB, cond_true, cond_false]
    repeat (go_big_quiet_step ((first | (intro hq; rfl) | (intro hq; simp [go_sem, (hm1 _ (hC0 _ hq)).2.2.2.2.2.2.1]; rfl) | (intro hq; simp [go_sem, (hm1 _ (hC0 _ hq)).2.2.2.2.2.2.1, hg, hroom, show f ≤ kc0 by omega]; rfl))))
    exact wpQuiet_nil rfl
  clear hl1 hm1
  have hs3 := HT0.out.size
  have HBW : Hid (Below w.heap.size w W3) := HT0.out.bel
  have HSK : Hid (∀ W, Below W3.heap.size W3 W → NSrc W 0 ka0 (K.take f)) := fun W hb => (HK.out.2.take f).below (HBW.out.trans (hb.mono HBW.out.size))
  have HSL : Hid (∀ W, Below W3.heap.size W3 W → NSrc W 0 b R) := fun W hb => HR.out.2.below (HBW.out.trans (hb.mono HBW.out.size))
  obtain ⟨tb, htb⟩ : ∃ tb, (if kc0 = g then ka0 else Option.map (fun x => x.add (g * 8)) ka0) = tb := ⟨_, rfl⟩
  have HST : Hid (∀ W, Below W3.heap.size W3 W → NSrc W 0 tb (K.drop g)) := fun W hb => by
    have h1 := src_tail (g := g) (kc := kc0) HK.out.2 (by have := HKL.out; omega) (by have := HKL.out; omega)
    rw [htb] at h1
    exact h1.below (HBW.out.trans (hb.mono HBW.out.size))
  have hkt : (K.take f).length = f := by rw [List.length_take]; have := HKL.out; omega
  have hkd : (K.drop g).length = ks0.length - g := by rw [List.length_drop]; have := HKL.out; omega
  have HLN : Hid ((K.take f).length = f ∧ (K.drop g).length = ks0.length - g ∧ f ≤ ks0.length ∧ ks0.length ≤ 1048576 ∧ L.length ≤ 1048576) := ⟨hkt, hkd, by omega, hkl, hll⟩
  clear hkt hkd
  intro z1 hb
  have HD1 : Hid (Below W3.heap.size W3 z1) := hb
  simp only [quiets.offB, cond_true, cond_false]
  rw [htb]
  clear hb htb
  refine quiets.tail_cons fun z2 hb => ?_
  have HD2 : Hid (Below W3.heap.size W3 z2) := HD1.out.trans (hb.mono HD1.out.size)
  clear hb
  go_wp2_with fail
  refine ⟨HD2.out.alloc HD2.out.size _, ?_⟩
  have HR0 : Hid (NRow W3 0 (z2.alloc (.cells #[] 28)) (.slice (some ⟨z2.heap.size, 0, none⟩) 0 0) []) := NRow.new HD2.out
  refine quiets.tail_cons fun z3 hb => ?_
  have HR1 : Hid (NRow W3 0 z3 (.slice (some ⟨z2.heap.size, 0, none⟩) 0 0) []) := HR0.out.below hb
  clear hb HR0
  go_wp2_with (at_builtin; refine add_row HR1.out kc0 f (HSK.out _ HR1.out.bel) (HSK.out _ (Below.refl _ _)).here (by have := HLN.out; simp; omega) (by rfl) _ _ (by rfl) (by rfl) (by rfl) HLN.out.1.symm ?_; rintro v1 z4 hr4)
  have HR4 : Hid (NRow W3 0 z4 v1 ([] ++ K.take f)) := hr4
  clear hr4
  refine ⟨HR4.out.bel, ?_⟩
  refine quiets.tail_cons fun z5 hb => ?_
  have HR5 : Hid (NRow W3 0 z5 v1 ([] ++ K.take f)) := HR4.out.below hb
  clear hb HR4
  go_wp2_with (at_builtin; refine add_row HR5.out cl L.length (HSL.out _ HR5.out.bel) (HSL.out _ (Below.refl _ _)).here (by have := HLN.out; have := HRL.out; rw [List.nil_append]; omega) (by rfl) _ _ (by rfl) (by rfl) (by rfl) HRL.out.symm ?_; rintro v2 z6 hr6)
  have HR6 : Hid (NRow W3 0 z6 v2 (([] ++ K.take f) ++ R)) := hr6
  clear hr6
  refine ⟨HR6.out.bel, ?_⟩
  refine quiets.tail_cons fun z7 hb => ?_
  have HR7 : Hid (NRow W3 0 z7 v2 (([] ++ K.take f) ++ R)) := HR6.out.below hb
  clear hb HR6
  go_wp2_with (at_builtin; refine add_row HR7.out (kc0 - g) (ks0.length - g) (HST.out _ HR7.out.bel) (HST.out _ (Below.refl _ _)).here (by have := HLN.out; have := HRL.out; rw [List.length_append, List.nil_append]; omega) (by rfl) _ _ (by rfl) (by rfl) (by rfl) HLN.out.2.1.symm ?_; rintro v3 z8 hr8)
  have HR8 : Hid (NRow W3 0 z8 v3 ((([] ++ K.take f) ++ R) ++ K.drop g)) := hr8
  clear hr8
  refine ⟨HR8.out.bel, ?_⟩
  refine quiets.tail_cons fun z9 hb => ?_
  have HR9 : Hid (NRow W3 0 z9 v3 ((([] ++ K.take f) ++ R) ++ K.drop g)) := HR8.out.below hb
  clear hb HR8
  go_wp2_with fail
  refine ⟨HR9.out.bel, ?_⟩
  refine quiets.tail_nil fun z10 hb => ?_
  have HR10 : Hid (NRow W3 0 z10 v3 ((([] ++ K.take f) ++ R) ++ K.drop g)) := HR9.out.below hb
  clear hb HR9
  obtain ⟨g3, c3, rfl, hg3, hc3, -, hsrc⟩ := HR10.out.src
  have hql : ((([] ++ K.take f) ++ R) ++ K.drop g).length ≤ 4000000 := by have := HLN.out; have := HRL.out; rw [List.length_append, List.length_append, List.nil_append]; omega
  obtain ⟨Q, hQ⟩ : ∃ Q, (([] ++ K.take f) ++ R) ++ K.drop g = Q := ⟨_, rfl⟩
  have htq : trees1 Q = cutIn ks0 f g L := by
    rw [← hQ, List.nil_append, trees.trees1_append, trees.trees1_append, trees1_take, trees1_drop, HK.out.1, HR.out.1]
    rfl
  rw [hQ] at HR10 hsrc hql
  rw [hQ]
  clear hQ
  have hzq : nszs (cutIn ks0 f g L) ≤ 1048576 := by
    have h1 := nszs_cut ks0 hfg L
    have h2 := kids_nsz (.mk k0 p0 l0 u0 x0 ds0 ats0 ks0)
    have h3 := HZ.out
    have h4 : (Tree.mk k0 p0 l0 u0 x0 ds0 ats0 ks0).kids = ks0 := rfl
    rw [h4] at h2
    omega
  have hmg := trees.spec_merge 0 (trees1 Q) (some ⟨g3, 0, none⟩) c3 z10 (by rw [htq]; exact hzq) (hsrc.at (by unfold maxLen; omega) (fun _ _ => Nat.zero_le _))
  unfold MergeOk at hmg
  rw [trees.trees1_len, htq] at hmg
  have HMG : Hid _ := hmg
  have HB10 : Hid (Below W3.heap.size W3 z10) := HR10.out.bel
  have HZQ : Hid _ := hzq
  clear hmg hzq hsrc hql htq hg3 hc3 HR10 HD1 HD2 HR1 HSK HSL HST
  go_wp2_with fail
  refine Calls.mono HMG.out ?_
  rintro e w5 ⟨⟨g4, c4, PM, GM, rfl, hPM, hRM, hsz⟩, hb⟩
  have HT5 : Hid _ := (HT0.out.below HB10.out).below hb
  have HS5 : Hid (z10.heap.size ≤ w5.heap.size ∧ W3.heap.size ≤ z10.heap.size) := ⟨hb.size, HB10.out.size⟩
  have HC4 : Hid (PM.length ≤ c4) := hRM.cap
  have HO5 : Hid (OwnL w5 (some ⟨g4, 0, none⟩) (mergeL (cutIn ks0 f g L)) (fun b => z10.heap.size ≤ b ∧ b < w5.heap.size)) := by
    have := hRM.row
    rw [hPM] at this
    exact this
  have HPL : Hid (PM.length = (mergeL (cutIn ks0 f g L)).length) := by show _ = _; rw [← hPM, trees.trees1_len]
  have HSZ : Hid (nszs (mergeL (cutIn ks0 f g L)) ≤ 1048576) := by have h1 := nszs_merge (cutIn ks0 f g L); have h2 := HZQ.out; show _ ≤ _; omega
  clear hb hPM hRM hsz HMG
  obtain ⟨o0, o1, o2, o3, o4, o5, o6, o7⟩ := box8 HT5.out.out
  obtain ⟨q0, q1, q2, q3, q4, q5, q6, q7⟩ := box_froz HT5.out.out
  obtain ⟨r0, r1, r2, r3, r4, r5, r6, r7⟩ := box8 HT5.out.res
  obtain ⟨s0, s1, s2, s3, s4, s5, s6, s7⟩ := box_froz HT5.out.res
  go_wp2
  refine bodyPost_ret (by simp [results, Try.results63, go_sem, r0, r1, r2, r3, r4, r5, r6, r7]; try rfl) rfl ?_
  have hsS := HS5.out
  rw [HA.out]
  refine ⟨⟨⟨da0, dc0, aa0, ac0, some ⟨g4, 0, none⟩, c4⟩, ?_, ?_⟩, below8 (pairs.below_set HT5.out.bel (by omega)) (by omega) _ _ _ _ _ _ _ _⟩
  · rw [HPL.out]
    rfl
  · have hout : Out (fun b => b = w.heap.size + 1 ∨ b = w.heap.size + 1 + 1) w5 _ := out8 (F := fun b => b = w.heap.size + 1 ∨ b = w.heap.size + 1 + 1) (g := w.heap.size + 1) ((Out.refl _ w5).set (F := fun b => b = w.heap.size + 1 ∨ b = w.heap.size + 1 + 1) (g := w.heap.size + 1 + 1) (Or.inr rfl) 6 (.slice (some ⟨g4, 0, none⟩) PM.length c4)) (Or.inl rfl) (.int .i64 k0) (.string p0) (.string l0) (.string u0) (.slice da0 ds0.length dc0) (.slice aa0 ats0.length ac0) (.slice (some ⟨g4, 0, none⟩) PM.length c4) (.string x0)
    have hfit := HN.out.fit
    have hbel : Below w.heap.size w _ := hout.below HT5.out.bel (fun b e => by rcases e with e | e <;> omega) HT5.out.bel.size
    have hml : (mergeL (cutIn ks0 f g L)).length ≤ maxLen := by have h1 := trees.nszs_eq (mergeL (cutIn ks0 f g L)); have h2 := HSZ.out; unfold maxLen; omega
    intro w'' hk
    have hkids := (HO5.out.out hout (fun b hb e => by have := hb.1; rcases e with e | e <;> omega)).out hk (fun b hb e => by have := hb.1; have := e.2; omega)
    have hb0 := HB0.out.trans (hbel.mono HB0.out.size)
    have old : ∀ k, k < w0.heap.size → w''.heap[k]? = w0.heap[k]? := fun k hk' => (hk.block k (Nat.lt_of_lt_of_le hk' hb0.size) (fun e => by have := e.1; omega)).trans (hb0.block k hk')
    have hsz := Nat.le_trans hb0.size hk.size
    exact trees.node_of (t := putT (.mk k0 p0 l0 u0 x0 ds0 ats0 ks0) [] f g L) (h := ⟨da0, dc0, aa0, ac0, some ⟨g4, 0, none⟩, c4⟩) ⟨⟨hfit.1, hfit.2.1, hfit.2.2.1, hfit.2.2.2.1, hfit.2.2.2.2.1, hml⟩, by have := HC4.out; have := HPL.out; show (mergeL (cutIn ks0 f g L)).length ≤ c4; omega⟩ (trees.pairs_keep HN0.out.decls hsz (fun b _ _ hlt => old b hlt)) (HN0.out.atts.keep hsz (fun b _ _ hlt => old b hlt)) (hkids.at hml) (fun _ _ => Nat.zero_le _) (fun _ _ => Nat.zero_le _)
theorem ints_rest {w : World} {a : Option Addr} {i : Int} {p : List Int} {cap : Nat} (h : IntsAt w a (i :: p)) (hc : (i :: p).length ≤ cap) : IntsAt w (if cap = 1 then a else Option.map (fun x => x.add 1) a) p := by
  have hsh := h.short
  rw [List.length_cons] at hsh hc
  refine ⟨fun h0 => ?_, by omega, fun j hj => h.fit (j + 1) (by simpa using hj)⟩
  obtain ⟨b, off, ha, hlt, hcl⟩ := h.row (by simp)
  subst ha
  rw [if_neg (by omega)]
  refine ⟨b, off + 1, by show some ((⟨b, off, none⟩ : Addr).add 1) = _; rw [Addr.add_lit], hlt, fun j hj => ?_⟩
  rw [show off + 1 + j = off + (j + 1) by omega]
  exact hcl (j + 1) (by simpa using hj)
/-- The first number of a path. -/
theorem ints_first {w : World} {a : Option Addr} {i : Int} {p : List Int} (h : IntsAt w a (i :: p)) : ∃ b off, a = some ⟨b, off, none⟩ ∧ b < w.heap.size ∧ w.cell? ⟨b, off, none⟩ = some (.int .i64 i) := by
  obtain ⟨b, off, ha, hlt, hcl⟩ := h.row (by simp)
  exact ⟨b, off, ha, hlt, hcl 0 (by simp)⟩
end Go.Proofs.Ytpejcblmglbjfaa.paths
