/-
  A draw of an element: what the answer is at the end.
-/
import Derived.Test.YtpejcblmglbjfaaDrawKid
namespace Go.Proofs.Ytpejcblmglbjfaa.draws
open Go.ChangeShapes Go.WideShapes Go.ChangeAt Go.RowKit
open pairs (Pair at0 PairsAt)
open trees (Att Tree Hdr vals TH th0 cellsN Bset Out Inc Apart OwnN OwnP OwnA OwnL RowA RowV Rng nsz nszs trees1)
set_option linter.unusedVariables false
theorem Fr.ownA {cb mb nb s lo hi : Nat} {W W' : World} {a : Option Addr} {L : List Att} (h : Fr cb mb nb s W W') (h0 : cb < lo ∧ mb < lo ∧ nb < lo) (h1 : hi ≤ s) (ho : OwnA W a L (fun g => lo ≤ g ∧ g < hi)) : OwnA W' a L (fun g => lo ≤ g ∧ g < hi) := fun hl => by
  obtain ⟨g, e1, e2, e3⟩ := ho hl
  obtain ⟨cur, t, h2, h3, h4⟩ := e3.all
  exact ⟨g, e1, e2, cur, t, (h.keep g (by omega) (by omega) (by omega) (by omega)).trans h2, h3, h4⟩
theorem fine_to {L : List Pair} (h : Fine L) : ∀ k, k ≤ L.length → pairs.sizeTo L k ≤ 1400 * k
  | 0, _ => by simp [pairs.sizeTo]
  | k + 1, hk => by
    have h1 := fine_to h k (by omega)
    have h2 := h k (by omega)
    rw [pairs.sizeTo]
    omega
theorem att_mem {L : List Att} {i : Nat} (h : i < L.length) : trees.att0 L i ∈ L := by
  unfold trees.att0
  rw [List.getD_eq_getElem?_getD, List.getElem?_eq_getElem h]
  exact List.getElem_mem h
theorem atts_to {L : List Att} (h : ∀ x ∈ L, x.size ≤ 720) : ∀ k, k ≤ L.length → trees.asizeTo L k ≤ 720 * k
  | 0, _ => by simp [trees.asizeTo]
  | k + 1, hk => by
    have h1 := atts_to h k (by omega)
    have h2 := h _ (att_mem (L := L) (i := k) (by omega))
    rw [trees.asizeTo]
    omega
/-- The parts of a drawn element, each in a range of its own within F: what can be appended to them. -/
structure ElParts (F : Bset) (Z : World) (t : Tree) (h : Hdr) : Prop where
  ex : ∃ (a1 a2 a3 a4 a5 : Nat) (P : List TH) (G : Nat → Bset), (a1 ≤ a2 ∧ a2 ≤ a3 ∧ a3 ≤ a4 ∧ a4 ≤ a5 ∧ a5 ≤ Z.heap.size) ∧ (∀ b, a1 ≤ b → b < a5 → F b) ∧ OwnP Z h.da t.ds (fun b => a1 ≤ b ∧ b < a2) ∧ AttV Z a2 (.slice h.aa t.ats.length h.ac) t.ats ∧ OwnA Z h.aa t.ats (fun b => a2 ≤ b ∧ b < a3) ∧ (∀ g, (Value.slice h.aa t.ats.length h.ac).ownBlock = some g → a2 ≤ g ∧ g < a3) ∧ trees1 P = t.kids ∧ KidR Z a4 (.slice h.ka P.length h.kc) P G ∧ (∀ i, Inc (G i) (fun b => a4 ≤ b ∧ b < a5)) ∧ (∀ g, (Value.slice h.ka P.length h.kc).ownBlock = some g → a4 ≤ g ∧ g < a5)
theorem AttV.block {w : World} {B : Nat} {a : Option Addr} {n c : Nat} {L : List Att} (h : AttV w B (.slice a n c) L) : ∀ g, (Value.slice a n c).ownBlock = some g → B ≤ g ∧ g < w.heap.size := fun g e => by
  rcases h.row with ⟨h0, _⟩ | ⟨g', c', h1, h2⟩
  · rw [h0] at e; cases e
  · rw [h1] at e; cases e; exact h2.lt
theorem AttV.apart {w w' : World} {B : Nat} {v : Value} {L : List Att} {F : Bset} (h : AttV w B v L) (ho : Out F w w') (hF : ∀ g, v.ownBlock = some g → ¬ F g) : AttV w' B v L := by
  refine ⟨?_, h.fine⟩
  rcases h.row with h0 | ⟨g, c, h1, h2⟩
  · exact .inl h0
  · exact .inr ⟨g, c, h1, own_same h2.own (fun g' e => by cases e; exact ho.block g h2.lt.2 (hF g (by rw [h1]; rfl))), h2.len⟩
theorem ElParts.out {F K : Bset} {Z Z' : World} {t : Tree} {h : Hdr} (hp : ElParts F Z t h) (ho : Out K Z Z') (hd : Apart F K) : ElParts F Z' t h := by
  obtain ⟨a1, a2, a3, a4, a5, P, G, ⟨b1, b2, b3, b4, b5⟩, hF, h1, h2, h3, h4, h5, h6, h7, h8⟩ := hp.ex
  refine ⟨a1, a2, a3, a4, a5, P, G, ⟨b1, b2, b3, b4, Nat.le_trans b5 ho.size⟩, hF, trees.OwnP.out h1 ho (fun b hb hk => hd b (hF b hb.1 (by have := hb.2; omega)) hk), h2.apart ho (fun g e hk => hd g (by obtain ⟨c1, c2⟩ := h4 g e; exact hF g (by omega) (by omega)) hk), trees.OwnA.out h3 ho (fun b hb hk => hd b (hF b (by have := hb.1; omega) (by have := hb.2; omega)) hk), h4, h5, ?_, h7, h8⟩
  have hk4 : ∀ b, a4 ≤ b → b < a5 → ¬ K b := fun b c1 c2 hk => hd b (hF b (by omega) (by omega)) hk
  exact ⟨own_same h6.own (fun g e => ho.block g (World.ownsRow.lt h6.own g e).2 (hk4 g (h8 g e).1 (h8 g e).2)), fun i b hb => ⟨(h6.rng i b hb).1, Nat.lt_of_lt_of_le (h6.rng i b hb).2 ho.size⟩, h6.not, h6.apart, fun i hi => (h6.kids i hi).out ho (fun b hb hk => hk4 b (h7 i b hb).1 (h7 i b hb).2 hk)⟩
theorem kid_of_row {w : World} {B g n c : Nat} {P : List TH} {G : Nat → Bset} (h : RowV w B g n c P G) : KidR w B (.slice (some ⟨g, 0, none⟩) P.length c) P G := by
  have hl := h.len
  subst hl
  exact ⟨h.own, h.rng, fun i g' e => by cases e; exact h.not i, h.apart, h.kids⟩
theorem el_end {w W2 wc w5 Z : World} {cb mb len cap nb s1 s2 m m1 g c5 c ac : Nat} {a ga aa : Option Addr} {DS : List Pair} {L : List Att} {P5 : List TH} {G5 : Nat → Bset} {pr lo u : ByteArray}
    (hst : ∃ m0, Cx w cb mb len cap a m0) (hx : Cx w5 cb mb len cap a m1) (ho : Out (Fm cb mb) w w5) (hgt : w.heap.size < nb) (hF : Fr cb mb nb W2.heap.size W2 w5) (hZ : Out (fun b => b = nb ∨ b = w.heap.size) w5 Z)
    (hcb : cb < nb ∧ mb < nb) (h1 : nb < s1) (h2 : s1 ≤ s2) (h3 : s2 ≤ W2.heap.size) (h4 : W2.heap.size ≤ wc.heap.size) (h5 : wc.heap.size ≤ w5.heap.size)
    (hd : OwnP W2 ga DS (fun g => nb < g ∧ g < s1)) (ha : OwnA W2 aa L (fun g => s1 ≤ g ∧ g < s2)) (hr : RowV w5 wc.heap.size g P5.length c5 P5 G5) (hav : AttV W2 s1 (.slice aa L.length ac) L)
    (hlo : lo.size ≤ 4 ∧ pr.size ≤ 4 ∧ u.size ≤ 700) (hdl : DS.length ≤ 3) (hfd : Fine DS) (hAT : L.length ≤ 2 ∧ ∀ x ∈ L, x.size ≤ 720) (hz5 : nszs (trees1 P5) ≤ 8000 * (m - m1)) (hzz : nszs (trees1 P5) ≤ 1048576) (hm1 : m1 ≤ m) :
    ∃ t h m', Ending.returned (.agg #[.int .i64 1, .string pr, .string lo, .string u, .slice ga DS.length c, .slice aa L.length ac, .slice (some ⟨g, 0, none⟩) P5.length c5, .string ⟨#[]⟩]) = .returned (.agg (vals t h)) ∧ OwnN Z t h (Rng w Z) ∧ t.kind = 1 ∧ m' ≤ m ∧ nsz t + 1 ≤ 8000 * (m - m' + 1) ∧ Cx Z cb mb len cap a m' ∧ Out (Fm cb mb) w Z ∧ ElParts (Rng w Z) Z t h := by
  have hws : w.heap.size ≤ w5.heap.size := ho.size
  have hzs : w5.heap.size ≤ Z.heap.size := hZ.size
  have hk : ∀ k, k < w.heap.size → Z.heap[k]? = w5.heap[k]? := fun k hk => hZ.block k (by omega) (fun e => by rcases e with e | e <;> omega)
  obtain ⟨m0, h0⟩ := hst
  have hpl : (trees1 P5).length ≤ 1048576 := by have := trees.nszs_eq (trees1 P5); omega
  have hd5 : OwnP w5 ga DS (fun g => nb < g ∧ g < W2.heap.size) := hF.own hcb.1 hcb.2 (trees.OwnP.sub hd (fun b hb => ⟨hb.1, by have := hb.2; omega⟩))
  have hd6 : OwnP Z ga DS (fun g => nb < g ∧ g < s1) := by
    intro hl
    obtain ⟨g', e1, e2, e3⟩ := hd5 hl
    obtain ⟨g'', e1', e2', _⟩ := hd hl
    rw [e1] at e1'
    cases e1'
    obtain ⟨cur, t, a1, a2, a3⟩ := e3.all
    exact ⟨_, e1, e2', cur, t, (hZ.block _ (pairs.lt_heap a1) (fun e => by have := e2'.1; rcases e with e | e <;> omega)).trans a1, a2, a3⟩
  have ha5 := hF.ownA (by exact ⟨by omega, by omega, by omega⟩) h3 ha
  have ha6 : OwnA Z aa L (fun g => s1 ≤ g ∧ g < s2) := trees.OwnA.out ha5 hZ (fun b (hb : s1 ≤ b ∧ b < s2) (e : b = nb ∨ b = w.heap.size) => by omega)
  have hk6 : OwnL Z (some ⟨g, 0, none⟩) (trees1 P5) (fun b => wc.heap.size ≤ b ∧ b < w5.heap.size) := trees.OwnL.out hr.row hZ (fun b (hb : wc.heap.size ≤ b ∧ b < w5.heap.size) (e : b = nb ∨ b = w.heap.size) => by omega)
  have e0 : (⟨#[]⟩ : ByteArray).size = 0 := rfl
  refine ⟨.mk 1 pr lo u ⟨#[]⟩ DS L (trees1 P5), ⟨ga, c, aa, ac, some ⟨g, 0, none⟩, c5⟩, m1, ?_, ?_, rfl, hm1, ?_, h0.far hx hzs hk, ⟨hZ.os.trans ho.os, hZ.tape.trans ho.tape, hZ.output.trans ho.output, by omega, fun k hk' hf => (hk k hk').trans (ho.block k hk' hf)⟩, ?_⟩
  · show _ = Ending.returned (.agg #[.int .i64 1, .string pr, .string lo, .string u, .slice ga DS.length c, .slice aa L.length ac, .slice (some ⟨g, 0, none⟩) (trees1 P5).length c5, .string ⟨#[]⟩])
    rw [trees.trees1_len]
  · refine trees.PartsN.node (FD := fun b => nb < b ∧ b < s1) (FA := fun b => s1 ≤ b ∧ b < s2) (FK := fun b => wc.heap.size ≤ b ∧ b < w5.heap.size) ⟨⟨⟨by show -9223372036854775808 ≤ (1 : Int) ∧ (1 : Int) ≤ 9223372036854775807; omega, ?_, ?_, ?_, ?_, ?_⟩, by show (trees1 P5).length ≤ c5; rw [trees.trees1_len]; exact hr.cap⟩, ⟨?_, fun i hi => ?_⟩, ⟨?_, fun i hi => ?_⟩, fun b hb => ⟨?_, ?_⟩, fun b hb => ⟨?_, ?_⟩, fun b hb => ⟨?_, ?_⟩, fun b hb hc => ?_, fun b hb hc => ?_, fun b hb hc => ?_, hd6, ha6, hk6⟩
    · show pr.size ≤ maxLen; unfold maxLen; omega
    · show lo.size ≤ maxLen; unfold maxLen; omega
    · show u.size ≤ maxLen; unfold maxLen; omega
    · show (⟨#[]⟩ : ByteArray).size ≤ maxLen; unfold maxLen; omega
    · show (trees1 P5).length ≤ maxLen; unfold maxLen; omega
    · show DS.length ≤ maxLen; unfold maxLen; omega
    · have := hfd i hi; unfold maxLen; exact ⟨by show (at0 DS i).1.size ≤ _; omega, by show (at0 DS i).2.size ≤ _; omega⟩
    · show L.length ≤ maxLen; unfold maxLen; omega
    · have hs := hAT.2 _ (att_mem (L := L) (i := i) hi)
      unfold Att.size at hs
      show (trees.att0 L i).fits
      unfold Att.fits maxLen
      omega
    all_goals first
      | (have h1 := hb.1; have h2 := hb.2; omega)
      | (have h1 := hb.1; have h2 := hb.2; have h3 := hc.1; have h4 := hc.2; omega)
  · have hd1 := fine_to hfd DS.length (Nat.le_refl _)
    have ha1 := atts_to hAT.2 L.length (Nat.le_refl _)
    rw [nsz]
    unfold trees.smallA
    omega
  · have hk5 := kid_of_row hr
    refine ⟨nb + 1, s1, W2.heap.size, wc.heap.size, w5.heap.size, P5, G5, ⟨by omega, by omega, h4, h5, hzs⟩, fun b hb1 hb2 => ⟨by omega, by omega⟩, trees.OwnP.sub hd6 (fun b hb => ⟨hb.1, hb.2⟩), ?_, trees.OwnA.sub ha6 (fun b hb => ⟨hb.1, by have := hb.2; omega⟩), hav.block, rfl, ?_, hk5.rng, fun g' e => World.ownsRow.lt hk5.own g' e⟩
    · exact hav.of (fun k h8 h9 => (hZ.block k (by have := hF.size; omega) (fun e => by rcases e with e | e <;> omega)).trans (hF.keep k h9 (by omega) (by omega) (by omega)))
    · exact hk5.out hZ (fun b e => by rcases e with e | e <;> omega)
end Go.Proofs.Ytpejcblmglbjfaa.draws
