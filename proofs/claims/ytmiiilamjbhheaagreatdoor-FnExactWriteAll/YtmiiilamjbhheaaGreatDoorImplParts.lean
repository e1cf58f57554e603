/-
  What the program's nodesLeft, elementsDeep, countKind and textsMeet answer.
-/
import Derived.Test.YtmiiilamjbhheaaGreatDoorNodeRight
namespace Go.Proofs.YtmiiilamjbhheaaGreatDoor.trees
open Go.ChangeShapes Go.WideShapes Go.ChangeAt Go.RowKit
open pairs (Pair at0 PairsAt)
open scopes (ret_bool)
set_option linter.unusedVariables false
/-- What is left of the room: at least 0 just if there is enough. -/
def LeftOk (t : Tree) (h : Hdr) (room : Nat) (w : World) : Prop :=
  Calls Tryz.prog 45 #[.agg (vals t h), .int .i64 room] w fun e w' => (∃ r : Int, e = .returned (.int .i64 r) ∧ -4000000 ≤ r ∧ r ≤ 1000 ∧ ((0 ≤ r ∧ r = (room : Int) - cnt t) ∨ (r < 0 ∧ room < cnt t))) ∧ Below w.heap.size w w'
set_option maxRecDepth 100000 in
set_option maxHeartbeats 4000000 in
theorem left_node_of (n B : Nat) (ih : ∀ (t : Tree) (h : Hdr) (room : Nat) (w : World), tsize t < n → nsz t ≤ 3000000 → room ≤ 1000 → NodeIn w B t h → LeftOk t h room w)
    (t : Tree) (h : Hdr) (room : Nat) (w : World) (ht : tsize t ≤ n) (hz : nsz t ≤ 3000000) (hr : room ≤ 1000) (hn : NodeIn w B t h) : LeftOk t h room w := by
  have hkt := tsize_kid t
  have hcl := cnt_le t
  obtain ⟨k, p, l, u, x, ds, ats, ks⟩ := t
  obtain ⟨da, dc, aa, ac, ka, kc⟩ := h
  have HK : Hid (NodesAt w B ka ks) := kids_at hn
  have hka : ats.length ≤ 9223372036854775807 := hn.atts.short
  have hkk : ks.length ≤ 9223372036854775807 := (kids_at hn).short
  have hnz : nsz (.mk k p l u x ds ats ks) = p.size + l.size + u.size + (ds.length + pairs.sizeTo ds ds.length) + smallA ats + nszs ks + x.size := by rw [nsz]
  have HZ : Hid (nszs ks ≤ 3000000) := by show _ ≤ _; omega
  have hats : ats.length ≤ 3000001 := by rw [cnt] at hcl; omega
  have HCN : Hid (cnt (.mk k p l u x ds ats ks) = 1 + ats.length + cntTo ks ks.length) := by show _ = _; rw [cnt, cnts_eq]
  have HKT : Hid (∀ i, i < ks.length → tsize (kid ks i) < n) := fun i hi => Nat.lt_of_lt_of_le (hkt i hi) ht
  have HIH : Hid _ := ih
  unfold LeftOk
  rw [HCN.out]
  simp only [vals, Tree.kind, Tree.pre, Tree.loc, Tree.uri, Tree.text, Tree.ds, Tree.ats, Tree.kids]
  clear ih hn ht hz hnz hkt hcl
  go_enter Tryz.func45, Tryz.ntmps45
  go_wp2_with fail
  go_loopw [1, 16] (fun q t wr => ∃ (i : Nat) (r : Int), i ≤ ks.length ∧ t = .int .i64 i ∧ q = .int .i64 r ∧ -4000000 ≤ r ∧ r ≤ 1000 ∧ Hid ((0 ≤ r ∧ r = (room : Int) - (1 + ats.length + cntTo ks i : Nat)) ∨ (r < 0 ∧ room < 1 + ats.length + cntTo ks i)) ∧ Hid (Below w.heap.size w wr)) (fun _ t _ => ks.length - (intOf t).toNat)
  case atStart =>
    refine ⟨0, (room : Int) - (1 + ats.length), Nat.zero_le _, rfl, by go_num, by omega, by omega, ?_, (Below.refl _ _).alloc (Nat.le_refl _) _⟩
    show _ ∨ _
    rw [cntTo]
    omega
  case round =>
    obtain ⟨i, r, hi, rfl, rfl, hr1, hr2, hrr, hbw⟩ := hrel
    by_cases hlt : i < ks.length
    · obtain ⟨b, off, ha, hblt, hc⟩ := (HK.out.below hbw.out).row (by omega)
      obtain ⟨h', hnode, hc0, hc1, hc2, hc3, hc4, hc5, hc6, hc7⟩ := hc i hlt
      have hst : cntTo ks (i + 1) = cntTo ks i + cnt (kid ks i) := rfl
      have hmo := cntTo_mono ks (show i + 1 ≤ ks.length by omega)
      by_cases hneg : r < 0
      · have HF : Hid (room < 1 + ats.length + cntTo ks ks.length) := by have := hrr.out; show _ < _; omega
        generalize kid ks i = y at hc0 hc1 hc2 hc3 hc4 hc5 hc6 hc7 hst
        subst ha
        clear hc hnode hst hmo
        have HB2 : Hid (∀ o, Below w.heap.size w (wr.alloc o)) := fun o => hbw.out.trans (((Below.refl _ wr).alloc (Nat.le_refl _) o).mono hbw.out.size)
        go_wp2
        go_ret
        exact ⟨⟨r, rfl, hr1, hr2, Or.inr ⟨hneg, HF.out⟩⟩, HB2.out _⟩
      · obtain ⟨q, rfl⟩ : ∃ q : Nat, r = q := ⟨r.toNat, by omega⟩
        have hE := fun o => HIH.out (kid ks i) h' q (wr.alloc o) (HKT.out i hlt) (by have h1 := nsz_kid ks i hlt; have h2 := HZ.out; omega) (by omega) (hnode.below ((Below.refl _ _).alloc (Nat.le_refl _) o))
        unfold LeftOk at hE
        unfold vals at hE
        generalize kid ks i = y at hc0 hc1 hc2 hc3 hc4 hc5 hc6 hc7 hE hst
        have HE : Hid (∀ o, _) := hE
        have HST : Hid _ := hst
        subst ha
        clear hc hE hnode hst hmo
        go_wp2_with fail
        refine Calls.mono (HE.out _) ?_
        rintro e w2 ⟨⟨r', rfl, hq1, hq2, hq3⟩, hb3⟩
        have HQ : Hid _ := hq3
        have HB2 : Hid _ := hbw.out.trans ((box_under hb3).mono hbw.out.size)
        clear hb3 HE hq3
        go_wp2
        go_roundw
        case rel =>
          refine ⟨i + 1, r', by omega, by go_num, rfl, hq1, hq2, ?_, HB2.out⟩
          have h1 := HQ.out
          have h2 := hrr.out
          have h3 := HST.out
          show _ ∨ _
          omega
        case measure => simp [intOf]; omega
    · obtain rfl : i = ks.length := by omega
      go_wp2
      go_ret
      refine ⟨⟨r, rfl, hr1, hr2, ?_⟩, hbw.out⟩
      have := hrr.out
      omega
theorem left_node (B : Nat) : ∀ n, ∀ (t : Tree) (h : Hdr) (room : Nat) (w : World), tsize t < n → nsz t ≤ 3000000 → room ≤ 1000 → NodeIn w B t h → LeftOk t h room w
  | 0, t, h, room, w, ht, _, _, _ => by omega
  | n + 1, t, h, room, w, ht, hz, hr, hn => left_node_of n B (fun t h room w ht hz hr hn => left_node B n t h room w ht hz hr hn) t h room w (by omega) hz hr hn
def DeepOk (t : Tree) (h : Hdr) (w : World) : Prop :=
  Calls Tryz.prog 46 #[.agg (vals t h)] w fun e w' => e = .returned (.int .i64 (deepT t : Int)) ∧ Below w.heap.size w w'
theorem deepTo_le (L : List Tree) : ∀ i, deepTo L i ≤ cntTo L i
  | 0 => Nat.le_refl _
  | i + 1 => by
    rw [deepTo, cntTo]
    have h1 := deepTo_le L i
    have h2 := deepT_le (kid L i)
    omega
set_option maxRecDepth 100000 in
set_option maxHeartbeats 4000000 in
theorem deep_node_of (n B : Nat) (ih : ∀ (t : Tree) (h : Hdr) (w : World), tsize t < n → nsz t ≤ 3000000 → NodeIn w B t h → DeepOk t h w)
    (t : Tree) (h : Hdr) (w : World) (ht : tsize t ≤ n) (hz : nsz t ≤ 3000000) (hn : NodeIn w B t h) : DeepOk t h w := by
  have hkt := tsize_kid t
  have hcl := cnt_le t
  obtain ⟨k, p, l, u, x, ds, ats, ks⟩ := t
  obtain ⟨da, dc, aa, ac, ka, kc⟩ := h
  have HK : Hid (NodesAt w B ka ks) := kids_at hn
  have hkk : ks.length ≤ 9223372036854775807 := (kids_at hn).short
  have hnz : nsz (.mk k p l u x ds ats ks) = p.size + l.size + u.size + (ds.length + pairs.sizeTo ds ds.length) + smallA ats + nszs ks + x.size := by rw [nsz]
  have HZ : Hid (nszs ks ≤ 3000000) := by show _ ≤ _; omega
  have HCB : Hid (cntTo ks ks.length ≤ 3000001) := by rw [cnt, cnts_eq] at hcl; show _ ≤ _; omega
  have HDN : Hid (deepT (.mk k p l u x ds ats ks) = deepTo ks ks.length + (bif k == 1 then 1 else 0)) := by show _ = _; rw [deepT, deepL_eq]
  have HKT : Hid (∀ i, i < ks.length → tsize (kid ks i) < n) := fun i hi => Nat.lt_of_lt_of_le (hkt i hi) ht
  have HIH : Hid _ := ih
  unfold DeepOk
  rw [HDN.out]
  simp only [vals, Tree.kind, Tree.pre, Tree.loc, Tree.uri, Tree.text, Tree.ds, Tree.ats, Tree.kids]
  clear ih hn ht hz hnz hkt hcl
  go_enter Tryz.func46, Tryz.ntmps46
  go_wp2_with fail
  go_loopw [3, 9] (fun q t wr => ∃ i : Nat, i ≤ ks.length ∧ t = .int .i64 i ∧ q = .int .i64 (deepTo ks i : Int) ∧ Hid (Below (w.alloc (.cells #[.int .i64 k, .string p, .string l, .string u, .slice da ds.length dc, .slice aa ats.length ac, .slice ka ks.length kc, .string x] 38)).heap.size (w.alloc (.cells #[.int .i64 k, .string p, .string l, .string u, .slice da ds.length dc, .slice aa ats.length ac, .slice ka ks.length kc, .string x] 38)) wr)) (fun _ t _ => ks.length - (intOf t).toNat)
  case atStart => exact ⟨0, Nat.zero_le _, rfl, rfl, Below.refl _ _⟩
  case round =>
    obtain ⟨i, hi, rfl, rfl, hbw⟩ := hrel
    obtain ⟨b0, b1, b2, b3, b4, b5, b6, b7⟩ := box8 (box_kept hbw.out)
    have HBW : Hid _ := box_under hbw.out
    have hdl : deepTo ks i ≤ 3000001 := Nat.le_trans (deepTo_le ks i) (Nat.le_trans (cntTo_mono ks hi) HCB.out)
    by_cases hlt : i < ks.length
    · obtain ⟨b, off, ha, hblt, hc⟩ := (HK.out.below HBW.out).row (by omega)
      obtain ⟨h', hnode, hc0, hc1, hc2, hc3, hc4, hc5, hc6, hc7⟩ := hc i hlt
      have hE := fun o => HIH.out (kid ks i) h' (wr.alloc o) (HKT.out i hlt) (by have h1 := nsz_kid ks i hlt; have h2 := HZ.out; omega) (hnode.below ((Below.refl _ _).alloc (Nat.le_refl _) o))
      unfold DeepOk at hE
      unfold vals at hE
      have hst : deepTo ks (i + 1) = max (deepTo ks i) (deepT (kid ks i)) := rfl
      generalize kid ks i = y at hc0 hc1 hc2 hc3 hc4 hc5 hc6 hc7 hE hst
      have HE : Hid (∀ o, _) := hE
      have HST : Hid _ := hst
      subst ha
      clear hc hE hnode hst b0 b1 b2 b3 b4 b5 b6 b7
      go_wp2_with fail
      refine Calls.mono (HE.out _) ?_
      rintro e w2 ⟨rfl, hb3⟩
      have HB2 : Hid _ := hbw.out.trans ((box_under hb3).mono hbw.out.size)
      clear hb3 HE
      go_wp2
      all_goals go_roundw
      all_goals first
        | (simp [intOf]; omega)
        | exact ⟨i + 1, by omega, by go_num, (by rw [HST.out]; congr 1; omega), HB2.out⟩
    · obtain rfl : i = ks.length := by omega
      cases hk1 : (k == 1)
      · go_wp2
        go_ret
        exact ⟨ret_int (by rw [hk1, cond_false]; omega), HBW.out⟩
      · go_wp2
        go_ret
        exact ⟨ret_int (by rw [hk1, cond_true]; omega), HBW.out⟩
theorem deep_node (B : Nat) : ∀ n, ∀ (t : Tree) (h : Hdr) (w : World), tsize t < n → nsz t ≤ 3000000 → NodeIn w B t h → DeepOk t h w
  | 0, t, h, w, ht, _, _ => by omega
  | n + 1, t, h, w, ht, hz, hn => deep_node_of n B (fun t h w ht hz hn => deep_node B n t h w ht hz hn) t h w (by omega) hz hn
set_option maxRecDepth 100000 in
set_option maxHeartbeats 2000000 in
theorem impl_count_kind (B : Nat) (a : Option Addr) (L : List Tree) (cap : Nat) (k : Int) (w : World) (hL : NodesAt w B a L) : Calls Tryz.prog 86 #[.slice a L.length cap, .int .i64 k] w fun e w' => e = .returned (.int .i64 (kindTo L k L.length : Int)) ∧ Below w.heap.size w w' := by
  have HL : Hid _ := hL
  have hkk : L.length ≤ 9223372036854775807 := hL.short
  clear hL
  go_enter Tryz.func86, Tryz.ntmps86
  go_wp2_with fail
  go_loopw [5, 10] (fun q t wr => ∃ i : Nat, i ≤ L.length ∧ t = .int .i64 i ∧ q = .int .i64 (kindTo L k i : Int) ∧ Hid (Below w.heap.size w wr)) (fun _ t _ => L.length - (intOf t).toNat)
  case atStart => exact ⟨0, Nat.zero_le _, rfl, rfl, Below.refl _ _⟩
  case round =>
    obtain ⟨i, hi, rfl, rfl, hbw⟩ := hrel
    by_cases hlt : i < L.length
    · obtain ⟨b, off, ha, hblt, hc⟩ := (HL.out.below hbw.out).row (by omega)
      obtain ⟨h', hnode, hc0, hc1, hc2, hc3, hc4, hc5, hc6, hc7⟩ := hc i hlt
      have hst : kindTo L k (i + 1) = kindTo L k i + (bif (kid L i).kind == k then 1 else 0) := rfl
      have hle := kindTo_le L k i
      generalize kid L i = y at hc0 hc1 hc2 hc3 hc4 hc5 hc6 hc7 hst
      have HST : Hid _ := hst
      have HB2 : Hid (∀ o, Below w.heap.size w (wr.alloc o)) := fun o => hbw.out.trans (((Below.refl _ wr).alloc (Nat.le_refl _) o).mono hbw.out.size)
      subst ha
      clear hc hnode hst
      cases hk : (y.kind == k)
      · rw [hk] at HST
        go_wp2
        go_roundw
        case rel => exact ⟨i + 1, by omega, by go_num, (by rw [HST.out]; rfl), HB2.out _⟩
        case measure => simp [intOf]; omega
      · rw [hk] at HST
        go_wp2
        go_roundw
        case rel => exact ⟨i + 1, by omega, by go_num, (by rw [HST.out]; congr 1), HB2.out _⟩
        case measure => simp [intOf]; omega
    · obtain rfl : i = L.length := by omega
      go_wp2
      go_ret
      exact ⟨rfl, hbw.out⟩
set_option maxRecDepth 100000 in
set_option maxHeartbeats 2000000 in
theorem impl_texts_meet (B : Nat) (a : Option Addr) (L : List Tree) (cap : Nat) (w : World) (hL : NodesAt w B a L) : Calls Tryz.prog 101 #[.slice a L.length cap] w fun e w' => e = .returned (.bool (meetB L)) ∧ Below w.heap.size w w' := by
  have HL : Hid _ := hL
  have hkk : L.length ≤ 9223372036854775807 := hL.short
  clear hL
  go_enter Tryz.func101, Tryz.ntmps101
  go_wp2_with fail
  go_loopw [3] (fun t wr => ∃ i : Nat, i ≤ L.length ∧ t = .int .i64 (i + 1 : Nat) ∧ Hid (∀ j, j < i + 1 → meetAt L j = false) ∧ wr = w) (fun t _ => L.length + 1 - (intOf t).toNat)
  case atStart => exact ⟨0, Nat.zero_le _, rfl, (fun j hj => by obtain rfl : j = 0 := (by omega); rfl), rfl⟩
  case round =>
    obtain ⟨i, hi, rfl, hup, rfl⟩ := hrel
    by_cases hlt : i + 1 < L.length
    · obtain ⟨b, off, ha, hblt, hc⟩ := HL.out.row (by omega)
      obtain ⟨h', hnode, hc0, _⟩ := hc (i + 1) hlt
      obtain ⟨h2, hnode2, hd0, _⟩ := hc i (by omega)
      have hme := meet_more (L := L) (i := i + 1) (by omega)
      rw [show i + 1 - 1 = i by omega] at hme
      have hye := meet_yes hlt
      have hsub : IntKind.i64.wrap (((i + 1 : Nat) : Int) - 1) = (i : Int) := by rw [IntKind.wrap_i64]; omega
      have hlt1 : ((i + 1 : Nat) : Int) < L.length := by omega
      have hlt0 : (i : Int) < L.length := by omega
      generalize (kid L (i + 1)).kind = y at hc0 hme
      generalize (kid L i).kind = z at hd0 hme
      have HME : Hid _ := hme
      have HYE : Hid (∀ h, _) := hye
      subst ha
      clear hc hnode hnode2 hme hye
      cases hz : (z == 2)
      · have HUP : Hid (∀ j, j < i + 1 + 1 → meetAt L j = false) := fun j hj => by
          by_cases e : j = i + 1
          · rw [e, HME.out, hz]; rfl
          · exact hup.out j (by omega)
        go_wp2
        go_roundw
        case rel => exact ⟨i + 1, by omega, by go_num, HUP.out, trivial⟩
        case measure => simp [intOf]; omega
      · cases hy : (y == 2)
        · have HUP : Hid (∀ j, j < i + 1 + 1 → meetAt L j = false) := fun j hj => by
            by_cases e : j = i + 1
            · rw [e, HME.out, hz, hy]; rfl
            · exact hup.out j (by omega)
          go_wp2
          go_roundw
          case rel => exact ⟨i + 1, by omega, by go_num, HUP.out, trivial⟩
          case measure => simp [intOf]; omega
        · have HF : Hid (meetB L = true) := HYE.out (by rw [HME.out, hz, hy]; rfl)
          go_wp2
          go_ret
          exact ⟨ret_bool HF.out.symm, Below.refl _ _⟩
    · have hge : ¬ ((i + 1 : Nat) : Int) < L.length := by omega
      have HF : Hid (meetB L = false) := meet_no fun j hj => hup.out j (by omega)
      go_wp2
      go_ret
      exact ⟨ret_bool HF.out.symm, Below.refl _ _⟩
end Go.Proofs.YtmiiilamjbhheaaGreatDoor.trees
