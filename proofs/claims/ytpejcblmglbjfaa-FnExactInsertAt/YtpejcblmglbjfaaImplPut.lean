/-
  What the program's putKids does.
-/
import Derived.Test.YtpejcblmglbjfaaTurnOwn
import Derived.Test.YtpejcblmglbjfaaImplCat
import Derived.Test.YtpejcblmglbjfaaImplMerge
import Derived.Test.YtpejcblmglbjfaaCalmLast
namespace Go.Proofs.Ytpejcblmglbjfaa.paths
open Go.ChangeShapes Go.WideShapes Go.ChangeAt Go.RowKit
open trees (Tree Hdr vals noTree kid nsz nszs tsize ksize NodeIn NodesAt OwnN OwnL Rng Out T3 box8 box_froz TH th0 cellsN trees1 mergeL MergeOk set8 CopyOk)
open ints (IntsAt int0 okI)
set_option linter.unusedVariables false
/-- What slices.Concat gives, as a slice of nodes. -/
theorem cat_slice {w w' : World} {v : Value} {Q : List TH} (h : (v = .slice none 0 0 ∧ Q = [] ∧ w' = w) ∨ NRow w 0 w' v Q) (hq : Q.length ≤ 4000000) : ∃ a c, v = .slice a Q.length c ∧ NodesAt w' 0 a (trees1 Q) ∧ Below w.heap.size w w' := by
  rcases h with ⟨rfl, rfl, rfl⟩ | h
  · exact ⟨none, 0, rfl, ⟨fun h => absurd h (by decide), by decide, fun _ h => by cases h⟩, Below.refl _ _⟩
  · obtain ⟨g, c, rfl, _, _, _, hs⟩ := h.src
    exact ⟨_, c, rfl, hs.at (by unfold maxLen; omega) (fun _ _ => Nat.zero_le _), h.bel⟩
/-- What putKids does. -/
def PutKids (x : Tree) (b' off' f g : Nat) (L : List Tree) (w : World) (w' : World) : Prop :=
  ∃ ka c, (mergeL (cutIn x.kids f g L)).length ≤ c ∧ Turned w w' b' off' (.slice ka (mergeL (cutIn x.kids f g L)).length c) ∧ OwnL w' ka (mergeL (cutIn x.kids f g L)) (fun k => w.heap.size ≤ k ∧ k < w'.heap.size)
set_option maxRecDepth 100000 in
set_option maxHeartbeats 16000000 in
theorem put_kids (x : Tree) (hx : Hdr) (b' off' f g : Nat) (L : List Tree) (b : Option Addr) (cl : Nat) (w : World) (hz : nszs (cutIn x.kids f g L) ≤ 1048576) (hzx : x.kids.length ≤ 1048576) (hzl : L.length ≤ 1048576) (hfg : f ≤ g) (hg : g ≤ x.kids.length) (hc : Cells8 w b' off' x hx) (hblk : ∃ cur ty, w.heap[b']? = some (.cells cur ty (0, 0)) ∧ off' + 8 ≤ cur.size) (hn : NodeIn w 0 x hx) (hL : NodesAt w 0 b L) :
    Calls Try.prog 62 #[.pointer (some ⟨b', off', none⟩), .int .i64 f, .int .i64 g, .slice b L.length cl] w fun e w' => e = .returned (.tuple #[]) ∧ PutKids x b' off' f g L w w' := by
  obtain ⟨K, hK1, hK2⟩ := src_of (trees.kids_at hn)
  obtain ⟨R, hR1, hR2⟩ := src_of hL
  have hroom := hn.room
  have hKL : K.length = x.kids.length := by rw [← hK1, trees.trees1_len]
  have hRL : R.length = L.length := by rw [← hR1, trees.trees1_len]
  have HN : Hid (nszs (cutIn x.kids f g L) ≤ 1048576) := hz
  have HBL : Hid (∃ cur ty, w.heap[b']? = some (.cells cur ty (0, 0)) ∧ off' + 8 ≤ cur.size) := hblk
  have HTK : Hid (trees1 (((([] : List TH) ++ K.take f) ++ R) ++ K.drop g) = cutIn x.kids f g L) := by
    show _ = _
    rw [List.nil_append, trees.trees1_append, trees.trees1_append, trees1_take, trees1_drop, hK1, hR1]
    rfl
  have hkt : (K.take f).length = f := by rw [List.length_take]; omega
  have hkd : (K.drop g).length = x.kids.length - g := by rw [List.length_drop]; omega
  have HLN : Hid ((K.take f).length = f ∧ (K.drop g).length = x.kids.length - g ∧ R.length = L.length) := ⟨hkt, hkd, hRL⟩
  obtain ⟨tb, htb⟩ : ∃ tb, (if hx.kc = g then hx.ka else Option.map (fun x => x.add (g * 8)) hx.ka) = tb := ⟨_, rfl⟩
  have HS1 : Hid (NSrc w 0 hx.ka (K.take f)) := hK2.take f
  have HS2 : Hid (NSrc w 0 b R) := hR2
  have HS3 : Hid (NSrc w 0 tb (K.drop g)) := by
    have h1 := src_tail (g := g) (kc := hx.kc) hK2 (by omega) (by omega)
    rw [htb] at h1
    exact h1
  have hcut := hc 6 (by omega)
  rw [show (vals x hx)[6]? = some (.slice hx.ka x.kids.length hx.kc) by rfl] at hcut
  clear hK1 hK2 hR1 hR2 hKL hRL hkt hkd hz hc hblk hn hL
  go_enter Try.func62, Try.ntmps62
  have hmo : ∀ W, Below w.heap.size w W → W.cell? ⟨b', off' + 6, none⟩ = _ := fun W hb => src_sub hb hcut
  apply quiets.wp_region_then (by simp) w (Below.refl _ _) [true, true, true, true, true, true, true, true, true, true, true, true, true, true] (hm := by kernel_rfl) (hlast := by kernel_rfl) (hB := by kernel_rfl) (hwalk := ?walk1) (htail := ?tail1)
  case walk1 =>
    intro C hC0 hC1
    simp only [quiets.onB, cond_true, List.dropLast]
    repeat (go_big_quiet_step ((first | (intro hq; rfl) | (intro hq; simp [go_sem, hmo _ (hC0 _ hq)]; rfl) | (intro hq; simp [go_sem, hmo _ (hC0 _ hq), hg, hroom, show f ≤ hx.kc by omega]; rfl))))
    exact wpQuiet_nil rfl
  clear hmo
  intro z1 hb
  have HD1 : Hid (Below w.heap.size w z1) := hb
  simp only [quiets.offB, cond_true, List.dropLast, List.getLast]
  clear hb htb
  refine quiets.tail_cons fun z2 hb => ?_
  have HD2 : Hid (Below w.heap.size w z2) := HD1.out.trans (hb.mono HD1.out.size)
  clear hb HD1
  have hsz2 : w.heap.size ≤ z2.heap.size := HD2.out.size
  go_wp2_with fail
  refine ⟨HD2.out.alloc HD2.out.size _, ?_⟩
  refine quiets.tail_cons fun z3 hb => ?_
  have hx3 := heap_alloc_new z2 (.cells #[.slice hx.ka f hx.kc, .slice b L.length cl, .slice tb (x.kids.length - g) (hx.kc - g)] 26)
  have hx3' := (hb.block z2.heap.size (by simp)).trans hx3
  have HD3 : Hid (Below w.heap.size w z3) := (HD2.out.alloc HD2.out.size _).trans (hb.mono (HD2.out.alloc HD2.out.size _).size)
  have hcat := concat_nodes hx.ka b tb (K.take f) R (K.drop g) hx.kc cl (hx.kc - g) z2.heap.size z3 (HS1.out.below HD3.out) (HS2.out.below HD3.out) (HS3.out.below HD3.out) (by have := HLN.out; omega) (by rw [HLN.out.1]; simp [World.cell?, hx3']) (by rw [HLN.out.2.2]; simp [World.cell?, hx3']) (by rw [HLN.out.2.1]; simp [World.cell?, hx3'])
  have HCAT : Hid _ := hcat
  obtain ⟨Q, hQ⟩ : ∃ Q, (([] ++ K.take f) ++ R) ++ K.drop g = Q := ⟨_, rfl⟩
  have hql : Q.length ≤ 4000000 := by have := HLN.out; rw [← hQ, List.length_append, List.length_append, List.nil_append]; omega
  rw [hQ] at HCAT HTK
  clear hb hx3 hx3' HD2 hcat HS1 HS2 HS3 hQ
  go_wp2_with fail
  refine Calls.mono HCAT.out ?_
  rintro e z4 ⟨v, rfl, hv⟩
  obtain ⟨a4, c4, rfl, hn4, hb4⟩ := cat_slice hv hql
  have HD4 : Hid (Below w.heap.size w z4) := HD3.out.trans (hb4.mono HD3.out.size)
  have HN4 : Hid (NodesAt z4 0 a4 (trees1 Q)) := hn4
  clear hv hn4 hb4 HCAT HD3
  go_wp2_with fail
  refine ⟨HD4.out, ?_⟩
  refine quiets.tail_cons fun z5 hb => ?_
  have HD5 : Hid (Below w.heap.size w z5) := HD4.out.trans (hb.mono HD4.out.size)
  have hmg := trees.impl_merge 0 (trees1 Q) a4 c4 z5 (by rw [HTK.out]; exact HN.out) (HN4.out.below hb)
  unfold MergeOk at hmg
  rw [trees.trees1_len] at hmg
  have HMG : Hid _ := hmg
  clear hb hmg HN4 HD4
  go_wp2_with fail
  refine Calls.mono HMG.out ?_
  rintro e z6 ⟨⟨g4, c6, PM, GM, rfl, hPM, hRM, hsz⟩, hb⟩
  rw [HTK.out] at hPM
  have HD6 : Hid (Below w.heap.size w z6) := HD5.out.trans (hb.mono HD5.out.size)
  have HO6 : Hid (OwnL z6 (some ⟨g4, 0, none⟩) (mergeL (cutIn x.kids f g L)) (fun b => z5.heap.size ≤ b ∧ b < z6.heap.size)) := by
    have := hRM.row
    rw [hPM] at this
    exact this
  have HC6 : Hid (PM.length ≤ c6 ∧ w.heap.size ≤ z5.heap.size) := ⟨hRM.cap, HD5.out.size⟩
  have HPL : Hid (PM.length = (mergeL (cutIn x.kids f g L)).length) := by show _ = _; rw [← hPM, trees.trees1_len]
  clear hb hPM hRM hsz HMG HD5
  go_wp2_with fail
  refine ⟨HD6.out, ?_⟩
  refine quiets.tail_cons fun z7 hb => ?_
  have HD7 : Hid (Below w.heap.size w z7) := HD6.out.trans (hb.mono HD6.out.size)
  have HO7 : Hid (OwnL z7 (some ⟨g4, 0, none⟩) (mergeL (cutIn x.kids f g L)) (fun b => z5.heap.size ≤ b ∧ b < z6.heap.size)) := trees.OwnL.below HO6.out hb
  have HE7 : Hid (z6.heap.size ≤ z7.heap.size) := hb.size
  clear hb HD6 HO6
  go_wp2_with fail
  refine ⟨HD7.out, ?_⟩
  refine quiets.tail_cons fun z8 hb => ?_
  have HD8 : Hid (Below w.heap.size w z8) := HD7.out.trans (hb.mono HD7.out.size)
  have HO8 : Hid (OwnL z8 (some ⟨g4, 0, none⟩) (mergeL (cutIn x.kids f g L)) (fun b => z5.heap.size ≤ b ∧ b < z6.heap.size)) := trees.OwnL.below HO7.out hb
  have HE8 : Hid (z6.heap.size ≤ z8.heap.size) := Nat.le_trans HE7.out hb.size
  clear hb HD7 HO7 HE7
  go_wp2_with fail
  refine ⟨HD8.out, ?_⟩
  refine quiets.tail_nil fun z9 hb => ?_
  have HD9 : Hid (Below w.heap.size w z9) := HD8.out.trans (hb.mono HD8.out.size)
  have HO9 : Hid (OwnL z9 (some ⟨g4, 0, none⟩) (mergeL (cutIn x.kids f g L)) (fun b => z5.heap.size ≤ b ∧ b < z6.heap.size)) := trees.OwnL.below HO8.out hb
  have HE9 : Hid (z6.heap.size ≤ z9.heap.size) := Nat.le_trans HE8.out hb.size
  clear hb HD8 HO8 HE8
  obtain ⟨cur, ty, hbl, hcs⟩ := HBL.out
  have hb9 := (HD9.out.block b' (pairs.lt_heap hbl)).trans hbl
  obtain ⟨c9, f9⟩ := pairs.blk_cell (i := off' + 6) hb9 (by omega)
  have HB9 : Hid (z9.heap[b']? = some (.cells cur ty (0, 0)) ∧ w.heap[b']? = some (.cells cur ty (0, 0))) := ⟨hb9, hbl⟩
  clear hbl hb9 HBL
  go_wp2_with fail
  simp only [quiets.only]
  refine bodyPost_end (by simp [results, Try.results62, go_sem]; rfl) rfl ?_
  refine ⟨rfl, some ⟨g4, 0, none⟩, c6, by have := HC6.out; have := HPL.out; omega, ⟨?_, fun cur' ty' h' => ?_⟩, ?_⟩
  · exact Out.set (F := fun k => k = b') (g := b') (Out.of_below HD9.out) rfl _ _
  · rw [← HPL.out]
    exact pairs.block_set _ ((HD9.out.block b' (pairs.lt_heap h')).trans h')
  · have hout : Out (fun k => k = b') z9 (z9.setCell ⟨b', off' + 6, none⟩ (.slice (some ⟨g4, 0, none⟩) PM.length c6)) := Out.set (F := fun k => k = b') (g := b') (Out.refl _ z9) rfl _ _
    have hlt := pairs.lt_heap HB9.out.2
    exact (HO9.out.out hout (fun k hk e => by have := hk.1; have := HC6.out; omega)).sub (fun k hk => ⟨by have := hk.1; have := HC6.out; omega, by have := hk.2; have := HE9.out; have := hout.size; omega⟩)
end Go.Proofs.Ytpejcblmglbjfaa.paths
