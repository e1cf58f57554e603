/-
  What the program's CountOf answers.
-/
import Derived.Test.YtonlnoifhjhbiabCountP
namespace Go.Proofs.Ytonlnoifhjhbiab.trees
open Go.ChangeShapes Go.WideShapes Go.ChangeAt Go.RowKit
open pairs (Pair at0 PairsAt)
set_option linter.unusedVariables false
def ImplCntOk (t : Tree) (h : Hdr) (w : World) : Prop :=
  Calls Try.prog 8 #[.agg (vals t h)] w fun e w' => e = .returned (.int .i64 (cnt t : Int)) ∧ Below w.heap.size w w'
set_option maxRecDepth 100000 in
set_option maxHeartbeats 4000000 in
theorem impl_cnt_node_of (n B : Nat) (ih : ∀ (t : Tree) (h : Hdr) (w : World), tsize t < n → nsz t ≤ 3000000 → NodeIn w B t h → ImplCntOk t h w)
    (t : Tree) (h : Hdr) (w : World) (ht : tsize t ≤ n) (hz : nsz t ≤ 3000000) (hn : NodeIn w B t h) : ImplCntOk t h w := by
  have hkt := tsize_kid t
  have hcl := cnt_le t
  obtain ⟨k, p, l, u, x, ds, ats, ks⟩ := t
  obtain ⟨da, dc, aa, ac, ka, kc⟩ := h
  have HK : Hid (NodesAt w B ka ks) := kids_at hn
  have hka : ats.length ≤ 9223372036854775807 := hn.atts.short
  have hkk : ks.length ≤ 9223372036854775807 := (kids_at hn).short
  have hnz : nsz (.mk k p l u x ds ats ks) = p.size + l.size + u.size + (ds.length + pairs.sizeTo ds ds.length) + smallA ats + nszs ks + x.size := by rw [nsz]
  have HZ : Hid (nszs ks ≤ 3000000) := by show _ ≤ _; omega
  have hats : ats.length ≤ 3000001 := by rw [cnt] at hcl; omega
  have HCN : Hid (cnt (.mk k p l u x ds ats ks) = 1 + ats.length + cntTo ks ks.length) := by show _ = _; rw [cnt, cnts_eq]
  have HCB : Hid (cntTo ks ks.length ≤ 3000001) := by have h1 := HCN.out; show _ ≤ _; omega
  have HKT : Hid (∀ i, i < ks.length → tsize (kid ks i) < n) := fun i hi => Nat.lt_of_lt_of_le (hkt i hi) ht
  have HIH : Hid _ := ih
  unfold ImplCntOk
  rw [HCN.out]
  simp only [vals, Tree.kind, Tree.pre, Tree.loc, Tree.uri, Tree.text, Tree.ds, Tree.ats, Tree.kids]
  clear ih hn ht hz hnz hkt hcl
  go_enter Try.func8, Try.ntmps8
  go_wp2_with fail
  go_loopw [3, 13] (fun q t wr => ∃ i : Nat, i ≤ ks.length ∧ t = .int .i64 i ∧ q = .int .i64 (1 + (ats.length : Int) + (cntTo ks i : Int)) ∧ Hid (Below w.heap.size w wr)) (fun _ t _ => ks.length - (intOf t).toNat)
  case atStart => exact ⟨0, Nat.zero_le _, rfl, by simp [cntTo], (Below.refl _ _).alloc (Nat.le_refl _) _⟩
  case round =>
    obtain ⟨i, hi, rfl, rfl, hbw⟩ := hrel
    by_cases hlt : i < ks.length
    · obtain ⟨b, off, ha, hblt, hc⟩ := (HK.out.below hbw.out).row (by omega)
      obtain ⟨h', hnode, hc0, hc1, hc2, hc3, hc4, hc5, hc6, hc7⟩ := hc i hlt
      have hE := fun o => HIH.out (kid ks i) h' (wr.alloc o) (HKT.out i hlt) (by have h1 := nsz_kid ks i hlt; have h2 := HZ.out; omega) (hnode.below ((Below.refl _ _).alloc (Nat.le_refl _) o))
      unfold ImplCntOk at hE
      unfold vals at hE
      have hst : cntTo ks (i + 1) = cntTo ks i + cnt (kid ks i) := rfl
      have hmo := cntTo_mono ks (show i + 1 ≤ ks.length by omega)
      have hcb := HCB.out
      have hb1 : cntTo ks i ≤ 3000001 := by omega
      have hb2 : cnt (kid ks i) ≤ 3000001 := by omega
      generalize kid ks i = y at hc0 hc1 hc2 hc3 hc4 hc5 hc6 hc7 hE hst hb2
      have HE : Hid (∀ o, _) := hE
      have HST : Hid _ := hst
      subst ha
      clear hc hE hnode hst hmo hcb
      go_wp2_with fail
      refine Calls.mono (HE.out _) ?_
      rintro e w2 ⟨rfl, hb3⟩
      have HB2 : Hid _ := hbw.out.trans ((box_under hb3).mono hbw.out.size)
      clear hb3 HE
      go_wp2
      go_roundw
      case rel => exact ⟨i + 1, by omega, by go_num, (by rw [HST.out]; congr 1; omega), HB2.out⟩
      case measure => simp [intOf]; omega
    · obtain rfl : i = ks.length := by omega
      go_wp2
      go_ret
      exact ⟨ret_int (by omega), hbw.out⟩
theorem impl_cnt_node (B : Nat) : ∀ n, ∀ (t : Tree) (h : Hdr) (w : World), tsize t < n → nsz t ≤ 3000000 → NodeIn w B t h → ImplCntOk t h w
  | 0, t, h, w, ht, _, _ => by omega
  | n + 1, t, h, w, ht, hz, hn => impl_cnt_node_of n B (fun t h w ht hz hn => impl_cnt_node B n t h w ht hz hn) t h w (by omega) hz hn
end Go.Proofs.Ytonlnoifhjhbiab.trees
