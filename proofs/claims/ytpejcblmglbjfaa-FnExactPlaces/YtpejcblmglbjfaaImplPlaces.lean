/-
  What the program's Places answers.
-/
import Derived.Test.YtpejcblmglbjfaaLayP
namespace Go.Proofs.Ytpejcblmglbjfaa.places
open Go.ChangeShapes Go.WideShapes Go.ChangeAt Go.RowKit
open trees (Tree Hdr vals noTree kid nsz nszs tsize ksize NodeIn NodesAt Bset Inc Apart Out Rng)
open ints (int0 okI IFit IntsAt MadeI)
set_option linter.unusedVariables false
set_option maxRecDepth 100000 in
set_option maxHeartbeats 4000000 in
theorem cut_ok (w : World) (B P rb T o n : Nat) (L : List (List Int)) (hl : Hid (Lay w B P rb T o L)) (hT : T ≤ 4398046511104) (hn : 0 < n) (hf : o + n ≤ T) :
    Calls Try.prog 82 #[.pointer (some ⟨P, 0, none⟩), .int .i64 n] w fun e w' => e = .returned (.slice (some ⟨rb, o, none⟩) n n) ∧ Lay w' B P rb T (o + n) L ∧ Out (fun b => b = P) w w' := by
  obtain ⟨q, v, h1, h2, h3⟩ := hl.out.box
  obtain rfl := h2 (by omega)
  have HX : Hid _ := h1
  have HO : Hid _ := h3
  obtain ⟨⟨a0, a1⟩, f0, f1⟩ := box2 h1
  obtain ⟨R, hR⟩ : ∃ R, T - q = R := ⟨_, rfl⟩
  rw [hR] at a0 HX
  have hr1 : n ≤ R := by omega
  have hr2 : R ≤ 4398046511104 := by omega
  have hr3 : ¬ n = 0 := by omega
  clear h1 h2 h3
  go_enter Try.func82, Try.ntmps82
  go_wp2
  · subst R
    go_ret
    have h1 := lay_cut (m := q + n) (q := q) hl.out hf (fun h => absurd h (by omega))
    rw [show T - (q + n) = 0 by omega] at h1
    exact ⟨rfl, h1⟩
  · go_ret
    have h1 := lay_cut (m := q + n) (q := q + n) hl.out hf (fun h => rfl)
    rw [show T - (q + n) = R - n by omega] at h1
    exact ⟨rfl, h1⟩
def NumsOk (t : Tree) (h : Hdr) (d : Nat) (w : World) : Prop :=
  Calls Try.prog 48 #[.agg (vals t h), .int .i64 d] w fun e w' => e = .returned (.int .i64 (numsT d t : Int)) ∧ Below w.heap.size w w'
theorem nums_small {d : Nat} {t : Tree} (h : d + nsz t ≤ 1048576) : numsT d t ≤ 4398046511104 := by
  refine Nat.le_trans (nums_le d t) (Nat.le_trans (Nat.mul_le_mul (show 1 + nsz t ≤ 1048577 by omega) h) (by decide))
set_option maxRecDepth 100000 in
set_option maxHeartbeats 4000000 in
theorem nums_of (n B : Nat) (ih : ∀ (t : Tree) (h : Hdr) (d : Nat) (w : World), tsize t < n → d + nsz t ≤ 1048576 → NodeIn w B t h → NumsOk t h d w)
    (t : Tree) (h : Hdr) (d : Nat) (w : World) (ht : tsize t ≤ n) (hz : d + nsz t ≤ 1048576) (hn : NodeIn w B t h) : NumsOk t h d w := by
  have hkt := trees.tsize_kid t
  have HS : Hid (numsT d t ≤ 4398046511104) := nums_small hz
  have HE : Hid (numsT d t = d + numsTs (d + 1) t.kids) := nums_eq d t
  have HZ : Hid (d + nszs t.kids ≤ 1048576) := by have := nsz_eq t; show _ ≤ _; omega
  have hd : d ≤ 1048576 := by omega
  obtain ⟨N, hN⟩ : ∃ N, numsT d t = N := ⟨_, rfl⟩
  unfold NumsOk
  rw [hN] at HS HE ⊢
  clear hN
  obtain ⟨k, p, l, u, x, ds, ats, ks⟩ := t
  obtain ⟨da, dc, aa, ac, ka, kc⟩ := h
  have HK : Hid (NodesAt w B ka ks) := trees.kids_at hn
  have hkk : ks.length ≤ 9223372036854775807 := (trees.kids_at hn).short
  have HKT : Hid (∀ i, i < ks.length → tsize (kid ks i) < n) := fun i hi => Nat.lt_of_lt_of_le (hkt i hi) ht
  have HIH : Hid _ := ih
  simp only [vals, Tree.kind, Tree.pre, Tree.loc, Tree.uri, Tree.text, Tree.ds, Tree.ats, Tree.kids] at *
  clear ih hn ht hz hkt
  go_enter Try.func48, Try.ntmps48
  go_wp2_with fail
  go_loopw [5, 12] (fun q t wr => ∃ (i c : Nat), i ≤ ks.length ∧ t = .int .i64 i ∧ q = .int .i64 (c : Int) ∧ Hid (d + numsTs (d + 1) (ks.take i) = c) ∧ Hid (Below w.heap.size w wr)) (fun _ t _ => ks.length - (intOf t).toNat)
  case atStart => exact ⟨0, d, Nat.zero_le _, rfl, rfl, by show _ = _; rw [List.take_zero, numsTs]; rfl, (Below.refl _ _).alloc (Nat.le_refl _) _⟩
  case round =>
    obtain ⟨i, c, hi, rfl, rfl, hc0, hbw⟩ := hrel
    by_cases hlt : i < ks.length
    · obtain ⟨b, off, ha, hblt, hc⟩ := (HK.out.below hbw.out).row (by omega)
      obtain ⟨h', hnode, hc0', hc1, hc2, hc3, hc4, hc5, hc6, hc7⟩ := hc i hlt
      have hy := nsz_kid1 ks i hlt
      have hE := fun o => HIH.out (kid ks i) h' (d + 1) (wr.alloc o) (HKT.out i hlt) (by have h2 := HZ.out; omega) (hnode.below ((Below.refl _ _).alloc (Nat.le_refl _) o))
      unfold NumsOk at hE
      unfold vals at hE
      have hst : d + numsTs (d + 1) (ks.take (i + 1)) = c + numsT (d + 1) (kid ks i) := by rw [nums_next (d + 1) hlt, ← hc0.out]; omega
      have hle := nums_take (d + 1) ks (i + 1)
      have hb1 : c + numsT (d + 1) (kid ks i) ≤ 4398046511104 := by have h1 := HS.out; have h2 := HE.out; omega
      generalize kid ks i = y at hc0' hc1 hc2 hc3 hc4 hc5 hc6 hc7 hE hst hb1
      generalize numsT (d + 1) y = z at hE hst hb1
      have HE2 : Hid (∀ o, _) := hE
      have HST : Hid _ := hst
      subst ha
      clear hc hE hnode hst hle hy
      go_wp2_with fail
      refine Calls.mono (HE2.out _) ?_
      rintro e w2 ⟨rfl, hb3⟩
      have HB2 : Hid _ := hbw.out.trans ((trees.box_under hb3).mono hbw.out.size)
      clear hb3 HE2
      go_wp2
      go_roundw
      case rel => exact ⟨i + 1, c + z, by omega, by go_num, by go_num, HST.out, HB2.out⟩
      case measure => simp [intOf]; omega
    · obtain rfl : i = ks.length := by omega
      have HNC : Hid (N = c) := by have h1 := hc0.out; rw [List.take_length] at h1; show _ = _; rw [HE.out, h1]
      go_wp2
      go_ret
      exact ⟨by rw [HNC.out]; rfl, hbw.out⟩
theorem nums_in (B : Nat) : ∀ n, ∀ (t : Tree) (h : Hdr) (d : Nat) (w : World), tsize t < n → d + nsz t ≤ 1048576 → NodeIn w B t h → NumsOk t h d w
  | 0, t, h, d, w, ht, _, _ => by omega
  | n + 1, t, h, d, w, ht, hz, hn => nums_of n B (fun t h d w a b c => nums_in B n t h d w a b c) t h d w (by omega) hz hn
def LayOk (w0 : World) (B P rb T : Nat) (t : Tree) (h : Hdr) (p : List Int) (L : List (List Int)) (w : World) : Prop :=
  Calls Try.prog 49 #[.pointer (some ⟨P, 0, none⟩), .agg (vals t h), pv rb L.flatten.length p] w fun e w' => e = .returned (.tuple #[]) ∧ Lay w' B P rb T (L ++ pathsT p t).flatten.length (L ++ pathsT p t) ∧ Room w' rb T (L ++ pathsT p t).flatten ∧ Below w0.heap.size w0 w'
/-- What holds ahead of lay. -/
structure LayPre (w0 w : World) (B P rb T : Nat) (t : Tree) (p : List Int) (L : List (List Int)) : Prop where
  lay : Lay w B P rb T (L.flatten.length + p.length) L
  room : Room w rb T (L.flatten ++ p)
  bel : Below w0.heap.size w0 w
  pl : w0.heap.size ≤ P
  rl : w0.heap.size ≤ rb
  nums : L.flatten.length + numsT p.length t ≤ T
  cap : T ≤ 4398046511104
  many : L.length + 1 + nsz t ≤ 1048577
  deep : p.length + nsz t ≤ 1048576
theorem pv_slice (rb o : Nat) (p : List Int) : ∃ a c, pv rb o p = .slice a p.length c := by
  unfold pv
  split
  · rename_i h
    exact ⟨none, 0, by rw [h]⟩
  · exact ⟨_, _, rfl⟩
set_option maxRecDepth 100000 in
set_option maxHeartbeats 16000000 in
theorem lay_of (n B' B P rb T : Nat) (w0 : World) (ih : ∀ t h p L w, tsize t < n → NodeIn w0 B' t h → LayPre w0 w B P rb T t p L → LayOk w0 B P rb T t h p L w) (t : Tree) (h : Hdr) (p : List Int) (L : List (List Int)) (w : World) (ht : tsize t ≤ n) (hn : NodeIn w0 B' t h) (hp : LayPre w0 w B P rb T t p L) : LayOk w0 B P rb T t h p L w := by
  have HIH : Hid _ := ih
  have HN : Hid (NodesAt w0 B' h.ka t.kids) := trees.kids_at hn
  have HZT : Hid (ksize t.kids < n) := by cases t; rw [tsize] at ht; show _ < _; simp only [Tree.kids]; omega
  have HIS : Hid (pathsT p t = p :: pathsTs p 0 t.kids) := paths_eq p t
  have HNE : Hid (numsT p.length t = p.length + numsTs (p.length + 1) t.kids) := nums_eq _ t
  have HNT : Hid (L.flatten.length + numsT p.length t ≤ T) := hp.nums
  have HML : Hid (L.length + 1 + nszs t.kids ≤ 1048577) := by have := hp.many; have := nsz_eq t; show _ ≤ _; omega
  have HDP : Hid (p.length + nszs t.kids ≤ 1048576) := by have := hp.deep; have := nsz_eq t; show _ ≤ _; omega
  have HLY : Hid _ := hp.lay
  have HRM : Hid _ := hp.room
  have HBW : Hid _ := hp.bel
  have hpl := hp.pl
  have hrl := hp.rl
  have hcap := hp.cap
  have hPB := hp.lay.pl
  have hrB := hp.lay.rl
  have hBw := hp.lay.le
  clear ih hn ht hp
  unfold LayOk
  obtain ⟨I, hI⟩ : ∃ I, pathsT p t = I := ⟨_, rfl⟩
  rw [hI] at HIS ⊢
  clear hI
  obtain ⟨N, hN⟩ : ∃ N, numsT p.length t = N := ⟨_, rfl⟩
  rw [hN] at HNE HNT
  clear hN
  obtain ⟨kd, pr, lo, ur, tx, ds, ats, ks⟩ := t
  obtain ⟨da, dc, aa, ac, ka, kc⟩ := h
  unfold vals at *
  simp only [Tree.kind, Tree.pre, Tree.loc, Tree.uri, Tree.text, Tree.ds, Tree.ats, Tree.kids] at *
  have hkl : ks.length ≤ 1048576 := by have := HDP.out; have := trees.nszs_eq ks; omega
  have hpz : p.length ≤ 1048576 := by have := HDP.out; omega
  have hLz : L.length ≤ 1048576 := by have := HML.out; omega
  obtain ⟨o, ho⟩ : ∃ o, L.flatten.length = o := ⟨_, rfl⟩
  have HOF : Hid (L.flatten.length = o) := ho
  rw [ho] at HNT HLY ⊢
  clear ho
  obtain ⟨ap, cp, hpv⟩ := pv_slice rb o p
  have HPV : Hid (pv rb o p = .slice ap p.length cp) := hpv
  rw [hpv]
  clear hpv
  obtain ⟨d, hd⟩ : ∃ d, p.length = d := ⟨_, rfl⟩
  have HD : Hid (p.length = d) := hd
  rw [hd] at hpz HPV HNE HLY ⊢
  clear hd
  have HSL : Hid ((slv rb 0 L ++ [.slice ap d cp] : List Value) = slv rb 0 L ++ [pv rb L.flatten.length p]) := by show _ = _; rw [HOF.out, HPV.out]
  have HB1 : Hid (Below w.heap.size w (w.alloc (.cells #[.int .i64 kd, .string pr, .string lo, .string ur, .slice da ds.length dc, .slice aa ats.length ac, .slice ka ks.length kc, .string tx] 28))) := (Below.refl _ _).alloc (Nat.le_refl _) _
  have HX1 : Hid ((w.alloc (.cells #[.int .i64 kd, .string pr, .string lo, .string ur, .slice da ds.length dc, .slice aa ats.length ac, .slice ka ks.length kc, .string tx] 28)).heap[w.heap.size]? = _) := heap_alloc_new w (.cells #[.int .i64 kd, .string pr, .string lo, .string ur, .slice da ds.length dc, .slice aa ats.length ac, .slice ka ks.length kc, .string tx] 28)
  go_enter Try.func49, Try.ntmps49
  obtain ⟨W1, hW1⟩ : ∃ W1, (w.alloc (.cells #[.int .i64 kd, .string pr, .string lo, .string ur, .slice da ds.length dc, .slice aa ats.length ac, .slice ka ks.length kc, .string tx] 28)) = W1 := ⟨_, rfl⟩
  have hs1 : W1.heap.size = w.heap.size + 1 := by rw [← hW1, World.size_alloc]
  rw [hW1] at HB1 HX1
  have HL1 : Hid (Lay W1 B P rb T (o + d) L) := HLY.out.below HB1.out
  have HR1 : Hid (Room W1 rb T (L.flatten ++ p)) := HRM.out.below HB1.out
  obtain ⟨q, v, hb1, hb2, hb3⟩ := HL1.out.box
  have HOW : Hid (W1.ownsRow B 32 1 v L.length (slv rb 0 L)) := hb3
  obtain ⟨⟨a0, a1⟩, f0, f1⟩ := box2 hb1
  have hBW : B ≤ W1.heap.size := by omega
  have HBX : Hid (v.ownBlock ≠ some w.heap.size) := fun e => by
    obtain ⟨q', v', c1, _, c3⟩ := HLY.out.box
    have e1 := (HB1.out.block P (pairs.lt_heap c1)).trans c1
    rw [hb1] at e1
    have e2 : v = v' := (show q = q' ∧ v = v' by simpa using (Obj.cells.inj (Option.some.inj e1)).1).2
    subst e2
    have := (World.ownsRow.lt c3 _ e).2
    omega
  clear hb1 hb2 hb3
  have HNE2 : Hid (rb ≠ P) := fun e => HL1.out.ne e.symm
  have hnP : ¬ P = w.heap.size := by omega
  have hnP' : ¬ w.heap.size = P := by omega
  go_wp2_with (at_builtin; refine add_slice B L.length v (slv rb 0 L) (.slice ap d cp) _ HOW.out (by rfl) hBW (by omega) (by rfl) _ _ (by rfl) (by rfl) _ (by rfl) (by omega) ?_; rintro g3 c3 w3 ho3 hb3 hs3 hk3; rw [HSL.out] at ho3; have HW3 : Hid (w3.heap[P]? = W1.heap[P]?) := hb3.block P hPB; have HL3 : Hid (Lay (w3.setCell ⟨P, 1, none⟩ (.slice (some ⟨g3, 0, none⟩) (L.length + 1) c3)) B P rb T (o + d) (L ++ [p])) := lay_more HL1.out a1 (fun k hk => hb3.block k hk) hs3 ho3; have HN3 : Hid (w3.heap[w.heap.size]? = _) := (hk3 w.heap.size (by omega) HBX.out).trans HX1.out; have HR3 : Hid (Room (w3.setCell ⟨P, 1, none⟩ (.slice (some ⟨g3, 0, none⟩) (L.length + 1) c3)) rb T (L.flatten ++ p)) := (HR1.out.kept (hb3.block rb hrB)).kept (Below.heap_setCell _ _ _ _ HNE2.out); have HB3 : Hid (Below w0.heap.size w0 (w3.setCell ⟨P, 1, none⟩ (.slice (some ⟨g3, 0, none⟩) (L.length + 1) c3))) := pairs.below_set ((HBW.out.trans (HB1.out.mono HBW.out.size)).trans (hb3.mono (by omega))) hpl; clear hk3 ho3 hs3 hb3 a0 a1 f0 f1; obtain ⟨b0, b1, b2, b3, b4, b5, b6, b7⟩ := trees.box8 HN3.out; obtain ⟨q3, v4, hb1, _⟩ := HL1.out.box; rw [← HW3.out] at hb1; obtain ⟨⟨a0, a1⟩, f0, f1⟩ := box2 hb1; clear hb1)
  obtain ⟨W4, hW4⟩ : ∃ W4, w3.setCell ⟨P, 1, none⟩ (.slice (some ⟨g3, 0, none⟩) (L.length + 1) c3) = W4 := ⟨_, rfl⟩
  rw [hW4] at HL3 HR3 HB3 ⊢
  clear hW4 hW1 hs1 hBW hnP hnP' a0 a1 f0 f1 b0 b1 b2 b3 b4 b5 b6 b7 HL1 HR1 HX1 HB1 HN3 HW3 HBX HOW HLY HRM HBW HSL
  have HNT2 : Hid (o + d + numsTs (d + 1) ks ≤ T) := by have h1 := HNE.out; have h2 := HNT.out; show _ ≤ _; omega
  have HM0 : Hid (L ++ [p] ++ pathsTs p 0 (ks.take 0) = L ++ [p]) := by show _ = _; rw [List.take_zero, pathsTs, List.append_nil]
  have HMF : Hid ((L ++ [p]).flatten = L.flatten ++ p ∧ (L ++ [p]).flatten.length = o + d) := by
    have e1 : (L ++ [p]).flatten = L.flatten ++ p := by rw [List.flatten_append, List.flatten_singleton]
    exact ⟨e1, by rw [e1, List.length_append, HOF.out, HD.out]⟩
  rw [← HMF.out.1] at HR3
  rw [← HMF.out.2] at HL3
  go_loopw [22] (fun t wr => ∃ (k : Nat) (M : List (List Int)), k ≤ ks.length ∧ t = .int .i64 k ∧ Hid (L ++ [p] ++ pathsTs p 0 (ks.take k) = M) ∧ Hid (Lay wr B P rb T M.flatten.length M) ∧ Hid (Room wr rb T M.flatten) ∧ Hid (Below w0.heap.size w0 wr)) (fun t _ => ks.length - (intOf t).toNat)
  case atStart => exact ⟨0, _, Nat.zero_le _, rfl, HM0, HL3, HR3, HB3⟩
  case round =>
    obtain ⟨k, M, hk, rfl, hM, hL, hR, hbw⟩ := hrel
    by_cases hlt : k < ks.length
    · obtain ⟨b, off, ha, hblt, hc⟩ := HN.out.row (by omega)
      obtain ⟨hd, hnode, hc0, hc1, hc2, hc3, hc4, hc5, hc6, hc7⟩ := hc k hlt
      have hks := trees.ksize_kid ks k hlt
      have hkz := nsz_kid1 ks k hlt
      obtain ⟨y, hy⟩ : ∃ y, kid ks k = y := ⟨_, rfl⟩
      have HNX : Hid (pathsTs p 0 (ks.take (k + 1)) = pathsTs p 0 (ks.take k) ++ pathsT (p ++ [(k : Int)]) y) := by show _ = _; rw [← hy]; exact paths_next p hlt
      have HRO : Hid ((pathsTs p 0 (ks.take k)).length + 1 + nsz y ≤ nszs ks) := by show _ ≤ _; rw [← hy]; exact pathss_room p hlt
      have HNN : Hid (numsTs (d + 1) (ks.take k) + numsT (d + 1) y ≤ numsTs (d + 1) ks) := by
        have h1 := nums_next (d + 1) hlt
        have h2 := nums_take (d + 1) ks (k + 1)
        rw [hy] at h1
        show _ ≤ _
        omega
      rw [hy] at hnode hc0 hc1 hc2 hc3 hc4 hc5 hc6 hc7 hks hkz
      have HMLn : Hid (M.flatten.length = o + d + numsTs (d + 1) (ks.take k) ∧ M.length = L.length + 1 + (pathsTs p 0 (ks.take k)).length ∧ M.flatten = L.flatten ++ (p ++ (pathsTs p 0 (ks.take k)).flatten)) := by
        have e1 := flats_len p 0 (ks.take k)
        have e2 := HMF.out.2
        rw [HD.out] at e1
        refine ⟨?_, ?_, ?_⟩
        · rw [← hM.out, List.flatten_append, List.length_append, e1, e2]
        · rw [← hM.out, List.length_append, List.length_append]; rfl
        · rw [← hM.out, List.flatten_append, HMF.out.1, List.append_assoc]
      have hny : d + 1 ≤ numsT (d + 1) y := by have := nums_eq (d + 1) y; omega
      obtain ⟨m, hm⟩ : ∃ m, M.flatten.length = m := ⟨_, rfl⟩
      have HMM : Hid (M.flatten.length = m) := hm
      rw [hm] at hL
      have hmT : m + numsT (d + 1) y ≤ T := by have h1 := HMLn.out.1; have h2 := HNN.out; have h3 := HNT2.out; omega
      have hmo : o + d ≤ m := by have h1 := HMLn.out.1; omega
      have HPM : Hid (∀ j, j < d → int0 M.flatten (o + j) = int0 p j) := fun j hj => by
        rw [HMLn.out.2.2, ← HOF.out]
        exact int_mid (by rw [HD.out]; exact hj)
      have hr8 : wr.cell? ⟨b, off + k * 8, none⟩ = some (.int .i64 y.kind) ∧ wr.cell? ⟨b, off + k * 8 + 1, none⟩ = some (.string y.pre) ∧ wr.cell? ⟨b, off + k * 8 + 2, none⟩ = some (.string y.loc) ∧ wr.cell? ⟨b, off + k * 8 + 3, none⟩ = some (.string y.uri) ∧ wr.cell? ⟨b, off + k * 8 + 4, none⟩ = some (.slice hd.da y.ds.length hd.dc) ∧ wr.cell? ⟨b, off + k * 8 + 5, none⟩ = some (.slice hd.aa y.ats.length hd.ac) ∧ wr.cell? ⟨b, off + k * 8 + 6, none⟩ = some (.slice hd.ka y.kids.length hd.kc) ∧ wr.cell? ⟨b, off + k * 8 + 7, none⟩ = some (.string y.text) := by
        have hk' := hbw.out.block b hblt
        rw [trees.cell_keep hk', trees.cell_keep hk', trees.cell_keep hk', trees.cell_keep hk', trees.cell_keep hk', trees.cell_keep hk', trees.cell_keep hk', trees.cell_keep hk']
        exact ⟨hc0, hc1, hc2, hc3, hc4, hc5, hc6, hc7⟩
      obtain ⟨e0, e1, e2, e3, e4, e5, e6, e7⟩ := hr8
      subst ha
      obtain ⟨w5, hw5⟩ : ∃ w5, wr.alloc (.cells #[.int .i64 y.kind, .string y.pre, .string y.loc, .string y.uri, .slice hd.da y.ds.length hd.dc, .slice hd.aa y.ats.length hd.ac, .slice hd.ka y.kids.length hd.kc, .string y.text] 28) = w5 := ⟨_, rfl⟩
      have HA5 : Hid (Below wr.heap.size wr w5) := by rw [← hw5]; exact (Below.refl _ _).alloc (Nat.le_refl _) _
      have hx5 := heap_alloc_new wr (.cells #[.int .i64 y.kind, .string y.pre, .string y.loc, .string y.uri, .slice hd.da y.ds.length hd.dc, .slice hd.aa y.ats.length hd.ac, .slice hd.ka y.kids.length hd.kc, .string y.text] 28)
      rw [hw5] at hx5
      have HX5 : Hid _ := hx5
      clear hx5
      have hcut := cut_ok w5 B P rb T m (d + 1) M (hL.out.below HA5.out) hcap (by omega) (by omega)
      push_cast at hcut
      have HC : Hid _ := hcut
      clear hcut
      have hbr : B ≤ wr.heap.size := hL.out.le
      clear hc hc0 hc1 hc2 hc3 hc4 hc5 hc6 hc7
      go_wp2_with fail
      refine Calls.mono HC.out ?_
      rintro e w6 ⟨rfl, hl6, ho6⟩
      have hs5 : wr.heap.size < w5.heap.size := pairs.lt_heap HX5.out
      have HL6 : Hid _ := hl6
      have HR6 : Hid (Room w6 rb T M.flatten) := (hR.out.below HA5.out).kept (ho6.block rb (by omega) HNE2.out)
      have HX6 : Hid (w6.heap[wr.heap.size]? = _) := (ho6.block wr.heap.size hs5 (fun e => by omega)).trans HX5.out
      have HB6 : Hid (Below w0.heap.size w0 w6) := ho6.below (hbw.out.trans (HA5.out.mono hbw.out.size)) (fun b hb => hb ▸ hpl) (Nat.le_trans hbw.out.size (by omega))
      have hrs : ¬ rb = wr.heap.size := by omega
      have hrs' : ¬ wr.heap.size = rb := by omega
      clear hl6 ho6 HC e0 e1 e2 e3 e4 e5 e6 e7
      obtain ⟨w7, hrun, hr7, ho7⟩ := copy_path w6 3 rb T m o d p M.flatten HD.out HMM.out HR6.out HPM.out (by omega) (by omega)
      rw [HPV.out] at hrun
      obtain ⟨⟨c7, hc7, hf7⟩, hr8⟩ := Room.set (o := m + d) (x := (k : Int)) hr7 (by rw [List.length_append, HMM.out, HD.out]) (by omega)
      have HR8 : Hid _ := hr8
      have HL7 : Hid _ := HL6.out.room ho7
      have HB7 : Hid (Below w0.heap.size w0 w7) := ho7.below HB6.out (fun b hb => hb ▸ hrl) HB6.out.size
      have hx7 := (ho7.block wr.heap.size (pairs.lt_heap HX6.out) (fun e => hrs' e)).trans HX6.out
      obtain ⟨e0, e1, e2, e3, e4, e5, e6, e7⟩ := trees.box8 hx7
      have HRUN : Hid _ := hrun
      clear hr8 hr7 ho7 hx7 hrun
      go_wp2_with fail
      refine pairs.upon_of_run HRUN.out ?_
      go_wp2_with fail
      obtain ⟨P2, hP2⟩ : ∃ P2, p ++ [(k : Int)] = P2 := ⟨_, rfl⟩
      have HP2 : Hid (P2.length = d + 1) := by show _ = _; rw [← hP2, List.length_append, HD.out]; rfl
      rw [hP2] at HNX
      rw [List.append_assoc, hP2] at HR8
      have HB8 : Hid (Below w0.heap.size w0 (w7.setCell ⟨rb, m + d, none⟩ (.int .i64 k))) := pairs.below_set HB7.out hrl
      have HL8 : Hid (Lay (w7.setCell ⟨rb, m + d, none⟩ (.int .i64 k)) B P rb T (m + (d + 1)) M) := HL7.out.room (Out.set (F := fun b => b = rb) (Out.refl _ _) rfl _ _)
      clear hP2 hc7 hf7 e0 e1 e2 e3 e4 e5 e6 e7
      have HPRE : Hid (LayPre w0 (w7.setCell ⟨rb, m + d, none⟩ (.int .i64 k)) B P rb T y P2 M) := by
        have h1 := HMLn.out
        have h2 := HRO.out
        have h3 := HML.out
        have h4 := HDP.out
        have h5 := HMM.out
        have h6 := HP2.out
        have h7 := HD.out
        have h8 := HMLn.out.2.1
        refine ⟨?_, HR8.out, HB8.out, hpl, hrl, ?_, hcap, ?_, ?_⟩
        · rw [h5, h6]; exact HL8.out
        · rw [h5, h6]; exact hmT
        · omega
        · omega
      have hcall := HIH.out y hd P2 M _ (by have := HZT.out; omega) hnode HPRE.out
      unfold LayOk at hcall
      rw [HMM.out, show pv rb m P2 = .slice (some ⟨rb, m, none⟩) (d + 1) (d + 1) by unfold pv; rw [HP2.out, if_neg (by omega)]] at hcall
      unfold vals at hcall
      have HCALL : Hid _ := hcall
      clear hcall HPRE HR8 HL8 HB8 hnode HL7 HB7 HX6 HR6 HB6 HL6
      refine Calls.mono HCALL.out ?_
      rintro e w9 ⟨rfl, hl9, hr9, hb9⟩
      obtain ⟨Y, hY⟩ : ∃ Y, pathsT P2 y = Y := ⟨_, rfl⟩
      rw [hY] at hl9 hr9 HNX
      have HL9 : Hid _ := hl9
      have HR9 : Hid _ := hr9
      have HB9 : Hid _ := hb9
      have HM9 : Hid (L ++ [p] ++ pathsTs p 0 (ks.take (k + 1)) = M ++ Y) := by show _ = _; rw [HNX.out, ← hM.out, List.append_assoc (L ++ [p])]
      clear hl9 hr9 hb9 hY HCALL
      go_wp2
      go_roundw
      case rel => exact ⟨k + 1, M ++ Y, by omega, by go_num, HM9.out, HL9.out, HR9.out, HB9.out⟩
      case measure => simp [intOf]; omega
    · obtain rfl : k = ks.length := by omega
      have HIM : Hid (M = L ++ I) := by
        have h1 := hM.out
        rw [List.take_length] at h1
        show _ = _
        rw [← h1, HIS.out, List.append_assoc]
        rfl
      go_wp2
      refine bodyPost_end (by simp [results, Try.results49, go_sem]; rfl) rfl ?_
      rw [← HIM.out]
      exact ⟨rfl, hL.out, hR.out, hbw.out⟩
theorem lay_all (B' B P rb T : Nat) (w0 : World) : ∀ n, ∀ (t : Tree) (h : Hdr) (p : List Int) (L : List (List Int)) (w : World), tsize t < n → NodeIn w0 B' t h → LayPre w0 w B P rb T t p L → LayOk w0 B P rb T t h p L w
  | 0, t, h, p, L, w, ht, _, _ => by omega
  | n + 1, t, h, p, L, w, ht, hn, hp => lay_of n B' B P rb T w0 (fun t h p L w a b c => lay_all B' B P rb T w0 n t h p L w a b c) t h p L w (by omega) hn hp
/-- What Places leaves: a row of slices, whose paths lie in one room, one behind the other. -/
structure Laid (w w' : World) (g c rb : Nat) (L : List (List Int)) : Prop where
  row : w'.ownsRow w.heap.size 32 1 (.slice (some ⟨g, 0, none⟩) L.length c) L.length (slv rb 0 L)
  room : Room w' rb L.flatten.length L.flatten
  rl : w.heap.size ≤ rb
theorem own_mono {w : World} {B B' : Nat} {e : TypeId} {size n : Nat} {v : Value} {xs : List Value} (h : w.ownsRow B e size v n xs) (hb : B' ≤ B) : w.ownsRow B' e size v n xs := by
  refine ⟨h.1, ?_⟩
  rcases h.2 with hn | ⟨g, cap, cur, rfl, h0, rest⟩
  · exact .inl hn
  · exact .inr ⟨g, cap, cur, rfl, Nat.le_trans hb h0, rest⟩
theorem room_new (w : World) (T : Nat) {w1 : World} {xs : List Value} (h : w1.ownsRow w.heap.size 3 1 (.slice (some ⟨w.heap.size, 0, none⟩) T T) T xs) : Room w1 w.heap.size T [] := by
  rcases h.2 with ⟨e, _⟩ | ⟨g, cap, cur, e, h0, h1, h2, h3, h4, h5⟩
  · cases e
  · cases e
    exact ⟨⟨cur, h1, by omega, fun j hj => absurd hj (by simp)⟩⟩
set_option maxRecDepth 100000 in
set_option maxHeartbeats 8000000 in
theorem impl_all (B' : Nat) (t : Tree) (h : Hdr) (w : World) (hz : nsz t ≤ 1048576) (hn : NodeIn w B' t h) :
    Calls Try.prog 11 #[.agg (vals t h)] w fun e w' => (∃ g c rb, e = .returned (.slice (some ⟨g, 0, none⟩) (pathsT [] t).length c) ∧ Laid w w' g c rb (pathsT [] t)) ∧ Below w.heap.size w w' := by
  have hnums := nums_small (d := 0) (t := t) (by omega)
  have HNI : Hid (∀ o, NumsOk t h 0 (w.alloc o)) := fun o => nums_in B' _ t h 0 _ (Nat.lt_succ_self _) (by omega) (hn.below ((Below.refl _ _).alloc (Nat.le_refl _) o))
  have HFL : Hid ((pathsT [] t).flatten.length = numsT 0 t) := flat_len [] t
  have HLAY : Hid (∀ B P rb W, LayPre w W B P rb (numsT 0 t) t [] [] → LayOk w B P rb (numsT 0 t) t h [] [] W) := fun B P rb W hp => lay_all B' B P rb _ w _ t h [] [] W (Nat.lt_succ_self _) hn hp
  have hne : 0 < (pathsT [] t).length := by rw [paths_eq]; simp
  have HZ : Hid (nsz t ≤ 1048576) := hz
  clear hn hz
  obtain ⟨T, hT⟩ : ∃ T, numsT 0 t = T := ⟨_, rfl⟩
  have HT : Hid (numsT 0 t = T) := hT
  unfold NumsOk at HNI
  unfold LayOk at HLAY
  rw [hT] at hnums HNI HFL HLAY
  clear hT
  obtain ⟨I, hI⟩ : ∃ I, pathsT [] t = I := ⟨_, rfl⟩
  rw [hI] at HFL HLAY hne ⊢
  clear hI
  obtain ⟨kd, pr, lo, ur, tx, ds, ats, ks⟩ := t
  obtain ⟨da, dc, aa, ac, ka, kc⟩ := h
  unfold vals at *
  simp only [Tree.kind, Tree.pre, Tree.loc, Tree.uri, Tree.text, Tree.ds, Tree.ats, Tree.kids] at *
  have HB1 : Hid (Below w.heap.size w (w.alloc (.cells #[.int .i64 kd, .string pr, .string lo, .string ur, .slice da ds.length dc, .slice aa ats.length ac, .slice ka ks.length kc, .string tx] 28))) := (Below.refl _ _).alloc (Nat.le_refl _) _
  have HX1 : Hid ((w.alloc (.cells #[.int .i64 kd, .string pr, .string lo, .string ur, .slice da ds.length dc, .slice aa ats.length ac, .slice ka ks.length kc, .string tx] 28)).heap[w.heap.size]? = _) := heap_alloc_new w (.cells #[.int .i64 kd, .string pr, .string lo, .string ur, .slice da ds.length dc, .slice aa ats.length ac, .slice ka ks.length kc, .string tx] 28)
  go_enter Try.func11, Try.ntmps11
  go_wp2_with fail
  refine Calls.mono (HNI.out _) ?_
  rintro e w1 ⟨rfl, hb1⟩
  have HB2 : Hid (Below w.heap.size w w1) := HB1.out.trans (hb1.mono HB1.out.size)
  have HX2 : Hid (w1.heap[w.heap.size]? = _) := trees.box_kept hb1
  clear hb1 HNI HX1 HB1
  go_wp2_with fail
  obtain ⟨i0, hi, hz0, hz1, hz2⟩ := info_parts infoI
  obtain ⟨w2, hrun, hown, hgr⟩ := run_make_full (P := Try.prog) w1 w1.heap.size 32 3 i0 (.int .i64 0) 1 Try.underlying32 hi hz0 hz1 .i64 .i64 T (by rw [hz2]; omega) (by unfold maxLen; omega) (Nat.le_refl _)
  have HR2 : Hid (Room w2 w1.heap.size T []) := room_new w1 T hown
  have HB3 : Hid (Below w1.heap.size w1 w2) := (Below.refl _ _).grown hgr (Nat.le_refl _) (fun k hk => by cases hk)
  have hlt : w1.heap.size < w2.heap.size := HR2.out.lt
  have HX3 : Hid (w2.heap[w.heap.size]? = _) := box_bel HX2.out HB3.out
  have HB4 : Hid (Below w.heap.size w w2) := HB2.out.trans (HB3.out.mono HB2.out.size)
  have hx4 := heap_alloc_new w2 (.cells #[.slice (some ⟨w1.heap.size, 0, none⟩) T T, .slice none 0 0] 73)
  have hb4 : Below w2.heap.size w2 (w2.alloc (.cells #[.slice (some ⟨w1.heap.size, 0, none⟩) T T, .slice none 0 0] 73)) := (Below.refl _ _).alloc (Nat.le_refl _) _
  obtain ⟨b0, b1, b2, b3, b4, b5, b6, b7⟩ := trees.box8 (box_bel HX3.out hb4)
  have HPRE : Hid (LayPre w (w2.alloc (.cells #[.slice (some ⟨w1.heap.size, 0, none⟩) T T, .slice none 0 0] 73)) (w2.heap.size + 1) w2.heap.size w1.heap.size T (.mk kd pr lo ur tx ds ats ks) [] []) := by
    have h1 := HB2.out.size
    have h2 := HB4.out.size
    refine ⟨⟨Nat.lt_succ_self _, by omega, by omega, by simp, Nat.zero_le _, 0, _, ?_, fun _ => rfl, rfl, .inl ⟨rfl, rfl⟩⟩, HR2.out.below hb4, HB4.out.trans (hb4.mono h2), h2, h1, ?_, hnums, ?_, ?_⟩
    · rw [hx4]
      rfl
    · have := HT.out; simp only [List.flatten_nil, List.length_nil]; omega
    · have := HZ.out; simp only [List.length_nil]; omega
    · have := HZ.out; simp only [List.length_nil]; omega
  have HC : Hid _ := HLAY.out _ _ _ _ HPRE.out
  have HRUN : Hid _ := hrun
  have HBS : Hid (w.heap.size ≤ w2.heap.size ∧ w.heap.size ≤ w1.heap.size) := ⟨HB4.out.size, HB2.out.size⟩
  clear HLAY HPRE hx4 hb4 hrun hown hgr HX3 HX2 HR2 hi hz0 hz1 hz2
  refine pairs.upon_of_run HRUN.out ?_
  go_wp2_with fail
  refine Calls.mono HC.out ?_
  rintro e w4 ⟨rfl, hl4, hr4, hb4⟩
  rw [List.nil_append] at hl4 hr4
  obtain ⟨q, v, c1, c2, c3⟩ := hl4.box
  obtain ⟨g, c, rfl⟩ : ∃ g c, v = .slice (some ⟨g, 0, none⟩) I.length c := by
    rcases c3.2 with ⟨_, h0⟩ | ⟨g', cap', cur, h0, _⟩
    · exact absurd h0 (by omega)
    · exact ⟨g', cap', h0⟩
  have HO4 : Hid (w4.ownsRow w.heap.size 32 1 (.slice (some ⟨g, 0, none⟩) I.length c) I.length (slv w1.heap.size 0 I)) := own_mono c3 (by have := HBS.out.1; omega)
  have HR4 : Hid (Room w4 w1.heap.size I.flatten.length I.flatten) := by rw [HFL.out]; exact hr4
  have HB5 : Hid _ := hb4
  obtain ⟨⟨a0, a1⟩, f0, f1⟩ := box2 c1
  clear hl4 hr4 hb4 c1 c2 c3 b0 b1 b2 b3 b4 b5 b6 b7 HC HRUN
  go_wp2
  go_ret
  exact ⟨⟨g, c, w1.heap.size, rfl, ⟨HO4.out, HR4.out, HBS.out.2⟩⟩, HB5.out⟩
end Go.Proofs.Ytpejcblmglbjfaa.places
