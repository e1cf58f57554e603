/-
  A draw of an element: what the answer is at the end.
-/
import Derived.Test.YtdpbiaomhndpcaaDrawKid
namespace Go.Proofs.Ytdpbiaomhndpcaa.draws
open Go.ChangeShapes Go.WideShapes Go.ChangeAt Go.RowKit
open pairs (Pair at0 PairsAt)
open trees (Att Tree Hdr vals TH th0 cellsN Bset Out Inc Apart OwnN OwnP OwnA OwnL RowA RowV Rng nsz nszs trees1)
set_option linter.unusedVariables false
theorem Fr.ownA {cb mb nb s lo hi : Nat} {W W' : World} {a : Option Addr} {L : List Att} (h : Fr cb mb nb s W W') (h0 : cb < lo ∧ mb < lo ∧ nb < lo) (h1 : hi ≤ s) (ho : OwnA W a L (fun g => lo ≤ g ∧ g < hi)) : OwnA W' a L (fun g => lo ≤ g ∧ g < hi) := fun hl => by
  obtain ⟨g, e1, e2, e3⟩ := ho hl
  obtain ⟨cur, t, h2, h3, h4⟩ := e3.all
  exact ⟨g, e1, e2, cur, t, (h.keep g (by omega) (by omega) (by omega) (by omega)).trans h2, h3, h4⟩
theorem fine_to {L : List Pair} (h : Fine L) : ∀ k, k ≤ L.length → pairs.sizeTo L k ≤ 1400 * k
  | 0, _ => by simp [pairs.sizeTo]
  | k + 1, hk => by
    have h1 := fine_to h k (by omega)
    have h2 := h k (by omega)
    rw [pairs.sizeTo]
    omega
theorem att_mem {L : List Att} {i : Nat} (h : i < L.length) : trees.att0 L i ∈ L := by
  unfold trees.att0
  rw [List.getD_eq_getElem?_getD, List.getElem?_eq_getElem h]
  exact List.getElem_mem h
theorem atts_to {L : List Att} (h : ∀ x ∈ L, x.size ≤ 720) : ∀ k, k ≤ L.length → trees.asizeTo L k ≤ 720 * k
  | 0, _ => by simp [trees.asizeTo]
  | k + 1, hk => by
    have h1 := atts_to h k (by omega)
    have h2 := h _ (att_mem (L := L) (i := k) (by omega))
    rw [trees.asizeTo]
    omega
theorem el_end {w W2 wc w5 Z : World} {cb mb len cap nb s1 s2 m m1 g c5 c ac : Nat} {a ga aa : Option Addr} {DS : List Pair} {L : List Att} {P5 : List TH} {G5 : Nat → Bset} {pr lo u : ByteArray}
    (hst : ∃ m0, Cx w cb mb len cap a m0) (hx : Cx w5 cb mb len cap a m1) (ho : Out (Fm cb mb) w w5) (hgt : w.heap.size < nb) (hF : Fr cb mb nb W2.heap.size W2 w5) (hZ : Out (fun b => b = nb ∨ b = w.heap.size) w5 Z)
    (hcb : cb < nb ∧ mb < nb) (h1 : nb < s1) (h2 : s1 ≤ s2) (h3 : s2 ≤ W2.heap.size) (h4 : W2.heap.size ≤ wc.heap.size) (h5 : wc.heap.size ≤ w5.heap.size)
    (hd : OwnP W2 ga DS (fun g => nb < g ∧ g < s1)) (ha : OwnA W2 aa L (fun g => s1 ≤ g ∧ g < s2)) (hr : RowV w5 wc.heap.size g P5.length c5 P5 G5)
    (hlo : lo.size ≤ 4 ∧ pr.size ≤ 4 ∧ u.size ≤ 700) (hdl : DS.length ≤ 3) (hfd : Fine DS) (hAT : L.length ≤ 2 ∧ ∀ x ∈ L, x.size ≤ 720) (hz5 : nszs (trees1 P5) ≤ 8000 * (m - m1)) (hzz : nszs (trees1 P5) ≤ 1048576) (hm1 : m1 ≤ m) :
    ∃ t h m', Ending.returned (.agg #[.int .i64 1, .string pr, .string lo, .string u, .slice ga DS.length c, .slice aa L.length ac, .slice (some ⟨g, 0, none⟩) P5.length c5, .string ⟨#[]⟩]) = .returned (.agg (vals t h)) ∧ OwnN Z t h (Rng w Z) ∧ t.kind = 1 ∧ m' ≤ m ∧ nsz t + 1 ≤ 8000 * (m - m' + 1) ∧ Cx Z cb mb len cap a m' ∧ Out (Fm cb mb) w Z := by
  have hws : w.heap.size ≤ w5.heap.size := ho.size
  have hzs : w5.heap.size ≤ Z.heap.size := hZ.size
  have hk : ∀ k, k < w.heap.size → Z.heap[k]? = w5.heap[k]? := fun k hk => hZ.block k (by omega) (fun e => by rcases e with e | e <;> omega)
  obtain ⟨m0, h0⟩ := hst
  have hpl : (trees1 P5).length ≤ 1048576 := by have := trees.nszs_eq (trees1 P5); omega
  have hd5 : OwnP w5 ga DS (fun g => nb < g ∧ g < W2.heap.size) := hF.own hcb.1 hcb.2 (trees.OwnP.sub hd (fun b hb => ⟨hb.1, by have := hb.2; omega⟩))
  have hd6 : OwnP Z ga DS (fun g => nb < g ∧ g < s1) := by
    intro hl
    obtain ⟨g', e1, e2, e3⟩ := hd5 hl
    obtain ⟨g'', e1', e2', _⟩ := hd hl
    rw [e1] at e1'
    cases e1'
    obtain ⟨cur, t, a1, a2, a3⟩ := e3.all
    exact ⟨_, e1, e2', cur, t, (hZ.block _ (pairs.lt_heap a1) (fun e => by have := e2'.1; rcases e with e | e <;> omega)).trans a1, a2, a3⟩
  have ha5 := hF.ownA (by exact ⟨by omega, by omega, by omega⟩) h3 ha
  have ha6 : OwnA Z aa L (fun g => s1 ≤ g ∧ g < s2) := trees.OwnA.out ha5 hZ (fun b (hb : s1 ≤ b ∧ b < s2) (e : b = nb ∨ b = w.heap.size) => by omega)
  have hk6 : OwnL Z (some ⟨g, 0, none⟩) (trees1 P5) (fun b => wc.heap.size ≤ b ∧ b < w5.heap.size) := trees.OwnL.out hr.row hZ (fun b (hb : wc.heap.size ≤ b ∧ b < w5.heap.size) (e : b = nb ∨ b = w.heap.size) => by omega)
  have e0 : (⟨#[]⟩ : ByteArray).size = 0 := rfl
  refine ⟨.mk 1 pr lo u ⟨#[]⟩ DS L (trees1 P5), ⟨ga, c, aa, ac, some ⟨g, 0, none⟩, c5⟩, m1, ?_, ?_, rfl, hm1, ?_, h0.far hx hzs hk, ⟨hZ.os.trans ho.os, hZ.tape.trans ho.tape, hZ.output.trans ho.output, by omega, fun k hk' hf => (hk k hk').trans (ho.block k hk' hf)⟩⟩
  · show _ = Ending.returned (.agg #[.int .i64 1, .string pr, .string lo, .string u, .slice ga DS.length c, .slice aa L.length ac, .slice (some ⟨g, 0, none⟩) (trees1 P5).length c5, .string ⟨#[]⟩])
    rw [trees.trees1_len]
  · refine trees.PartsN.node (FD := fun b => nb < b ∧ b < s1) (FA := fun b => s1 ≤ b ∧ b < s2) (FK := fun b => wc.heap.size ≤ b ∧ b < w5.heap.size) ⟨⟨by show -9223372036854775808 ≤ (1 : Int) ∧ (1 : Int) ≤ 9223372036854775807; omega, ?_, ?_, ?_, ?_, ?_⟩, ⟨?_, fun i hi => ?_⟩, ⟨?_, fun i hi => ?_⟩, fun b hb => ⟨?_, ?_⟩, fun b hb => ⟨?_, ?_⟩, fun b hb => ⟨?_, ?_⟩, fun b hb hc => ?_, fun b hb hc => ?_, fun b hb hc => ?_, hd6, ha6, hk6⟩
    · show pr.size ≤ maxLen; unfold maxLen; omega
    · show lo.size ≤ maxLen; unfold maxLen; omega
    · show u.size ≤ maxLen; unfold maxLen; omega
    · show (⟨#[]⟩ : ByteArray).size ≤ maxLen; unfold maxLen; omega
    · show (trees1 P5).length ≤ maxLen; unfold maxLen; omega
    · show DS.length ≤ maxLen; unfold maxLen; omega
    · have := hfd i hi; unfold maxLen; exact ⟨by show (at0 DS i).1.size ≤ _; omega, by show (at0 DS i).2.size ≤ _; omega⟩
    · show L.length ≤ maxLen; unfold maxLen; omega
    · have hs := hAT.2 _ (att_mem (L := L) (i := i) hi)
      unfold Att.size at hs
      show (trees.att0 L i).fits
      unfold Att.fits maxLen
      omega
    all_goals first
      | (have h1 := hb.1; have h2 := hb.2; omega)
      | (have h1 := hb.1; have h2 := hb.2; have h3 := hc.1; have h4 := hc.2; omega)
  · have hd1 := fine_to hfd DS.length (Nat.le_refl _)
    have ha1 := atts_to hAT.2 L.length (Nat.le_refl _)
    rw [nsz]
    unfold trees.smallA
    omega
end Go.Proofs.Ytdpbiaomhndpcaa.draws
