/-
  How many nodes there are: plain, and the specification's CountOf.
-/
import Derived.Test.YtpejcblmglbjfaaNodeFns
namespace Go.Proofs.Ytpejcblmglbjfaa.trees
open Go.ChangeShapes Go.WideShapes Go.ChangeAt Go.RowKit
open pairs (Pair at0 PairsAt)
set_option linter.unusedVariables false
mutual
def cnt : Tree → Nat
  | .mk _ _ _ _ _ _ ats ks => 1 + ats.length + cnts ks
def cnts : List Tree → Nat
  | [] => 0
  | t :: ts => cnt t + cnts ts
end
def cntTo (L : List Tree) : Nat → Nat
  | 0 => 0
  | k + 1 => cntTo L k + cnt (kid L k)
theorem cntTo_cons (t : Tree) (ts : List Tree) : ∀ k, cntTo (t :: ts) (k + 1) = cnt t + cntTo ts k
  | 0 => by simp [cntTo, kid]
  | k + 1 => by
    rw [cntTo, cntTo_cons t ts k, cntTo]
    show _ + cnt (kid ts k) = _
    omega
theorem cnts_eq : ∀ L : List Tree, cnts L = cntTo L L.length
  | [] => by simp [cnts, cntTo]
  | t :: ts => by rw [cnts, cnts_eq ts, List.length_cons, cntTo_cons]
mutual
theorem cnt_le : ∀ t : Tree, cnt t ≤ 1 + nsz t
  | .mk _ p l u x ds ats ks => by
    rw [cnt, nsz]
    have := cnts_le ks
    unfold smallA
    omega
theorem cnts_le : ∀ L : List Tree, cnts L ≤ nszs L
  | [] => by rw [cnts, nszs]; exact Nat.le_refl _
  | t :: ts => by
    rw [cnts, nszs]
    have h1 := cnt_le t
    have h2 := cnts_le ts
    omega
end
theorem cntTo_mono (L : List Tree) : ∀ {i k : Nat}, i ≤ k → cntTo L i ≤ cntTo L k
  | i, 0, h => by rw [show i = 0 by omega]; exact Nat.le_refl _
  | i, k + 1, h => by
    by_cases e : i = k + 1
    · rw [e]; exact Nat.le_refl _
    · have := cntTo_mono L (i := i) (k := k) (by omega)
      rw [cntTo]
      omega
theorem ret_int {a b : Int} (h : a = b) : Ending.returned (.int .i64 a) = .returned (.int .i64 b) := by rw [h]
def CntOk (t : Tree) (h : Hdr) (w : World) : Prop :=
  Calls Try.prog 107 #[.agg (vals t h)] w fun e w' => e = .returned (.int .i64 (cnt t : Int)) ∧ Below w.heap.size w w'
set_option maxRecDepth 100000 in
set_option maxHeartbeats 4000000 in
theorem cnt_node_of (n B : Nat) (ih : ∀ (t : Tree) (h : Hdr) (w : World), tsize t < n → nsz t ≤ 3000000 → NodeIn w B t h → CntOk t h w)
    (t : Tree) (h : Hdr) (w : World) (ht : tsize t ≤ n) (hz : nsz t ≤ 3000000) (hn : NodeIn w B t h) : CntOk t h w := by
  have hkt := tsize_kid t
  have hcl := cnt_le t
  obtain ⟨k, p, l, u, x, ds, ats, ks⟩ := t
  obtain ⟨da, dc, aa, ac, ka, kc⟩ := h
  have HK : Hid (NodesAt w B ka ks) := kids_at hn
  have hka : ats.length ≤ 9223372036854775807 := hn.atts.short
  have hkk : ks.length ≤ 9223372036854775807 := (kids_at hn).short
  have hnz : nsz (.mk k p l u x ds ats ks) = p.size + l.size + u.size + (ds.length + pairs.sizeTo ds ds.length) + smallA ats + nszs ks + x.size := by rw [nsz]
  have HZ : Hid (nszs ks ≤ 3000000) := by show _ ≤ _; omega
  have hats : ats.length ≤ 3000001 := by rw [cnt] at hcl; omega
  have HCN : Hid (cnt (.mk k p l u x ds ats ks) = 1 + ats.length + cntTo ks ks.length) := by show _ = _; rw [cnt, cnts_eq]
  have HCB : Hid (cntTo ks ks.length ≤ 3000001) := by have h1 := HCN.out; show _ ≤ _; omega
  have HKT : Hid (∀ i, i < ks.length → tsize (kid ks i) < n) := fun i hi => Nat.lt_of_lt_of_le (hkt i hi) ht
  have HIH : Hid _ := ih
  unfold CntOk
  rw [HCN.out]
  simp only [vals, Tree.kind, Tree.pre, Tree.loc, Tree.uri, Tree.text, Tree.ds, Tree.ats, Tree.kids]
  clear ih hn ht hz hnz hkt hcl
  go_enter Try.func107, Try.ntmps107
  go_wp2_with fail
  go_loopw [3, 4] (fun q t wr => ∃ i : Nat, i ≤ ks.length ∧ t = .int .i64 i ∧ q = .int .i64 (1 + (ats.length : Int) + (cntTo ks i : Int)) ∧ Hid (Below (w.alloc (.cells #[.int .i64 k, .string p, .string l, .string u, .slice da ds.length dc, .slice aa ats.length ac, .slice ka ks.length kc, .string x] 28)).heap.size (w.alloc (.cells #[.int .i64 k, .string p, .string l, .string u, .slice da ds.length dc, .slice aa ats.length ac, .slice ka ks.length kc, .string x] 28)) wr)) (fun _ t _ => ks.length - (intOf t).toNat)
  case atStart => exact ⟨0, Nat.zero_le _, rfl, by simp [cntTo], Below.refl _ _⟩
  case round =>
    obtain ⟨i, hi, rfl, rfl, hbw⟩ := hrel
    obtain ⟨b0, b1, b2, b3, b4, b5, b6, b7⟩ := box8 (box_kept hbw.out)
    have HBW : Hid _ := box_under hbw.out
    by_cases hlt : i < ks.length
    · obtain ⟨b, off, ha, hblt, hc⟩ := (HK.out.below HBW.out).row (by omega)
      obtain ⟨h', hnode, hc0, hc1, hc2, hc3, hc4, hc5, hc6, hc7⟩ := hc i hlt
      have hE := HIH.out (kid ks i) h' wr (HKT.out i hlt) (by have h1 := nsz_kid ks i hlt; have h2 := HZ.out; omega) hnode
      unfold CntOk at hE
      unfold vals at hE
      have hst : cntTo ks (i + 1) = cntTo ks i + cnt (kid ks i) := rfl
      have hmo := cntTo_mono ks (show i + 1 ≤ ks.length by omega)
      have hcb := HCB.out
      have hb1 : cntTo ks i ≤ 3000001 := by omega
      have hb2 : cnt (kid ks i) ≤ 3000001 := by omega
      generalize kid ks i = y at hc0 hc1 hc2 hc3 hc4 hc5 hc6 hc7 hE hst hb2
      have HE : Hid _ := hE
      have HST : Hid _ := hst
      subst ha
      clear hc hE hnode hst hmo hcb
      go_wp2_with fail
      refine Calls.mono HE.out ?_
      rintro e w2 ⟨rfl, hb3⟩
      have HB2 : Hid _ := hbw.out.trans (hb3.mono hbw.out.size)
      clear hb3 HE
      go_wp2
      go_roundw
      case rel => exact ⟨i + 1, by omega, by go_num, (by rw [HST.out]; congr 1; omega), HB2.out⟩
      case measure => simp [intOf]; omega
    · obtain rfl : i = ks.length := by omega
      go_wp2
      go_ret
      exact ⟨ret_int (by omega), HBW.out⟩
theorem cnt_node (B : Nat) : ∀ n, ∀ (t : Tree) (h : Hdr) (w : World), tsize t < n → nsz t ≤ 3000000 → NodeIn w B t h → CntOk t h w
  | 0, t, h, w, ht, _, _ => by omega
  | n + 1, t, h, w, ht, hz, hn => cnt_node_of n B (fun t h w ht hz hn => cnt_node B n t h w ht hz hn) t h w (by omega) hz hn
end Go.Proofs.Ytpejcblmglbjfaa.trees
