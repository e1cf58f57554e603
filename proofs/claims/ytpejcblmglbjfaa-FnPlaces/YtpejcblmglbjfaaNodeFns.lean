/-
  The laws' own helpers on nodes: how great they are.
-/
import Derived.Test.YtpejcblmglbjfaaAttFns
import Derived.Test.YtpejcblmglbjfaaPairDecl
namespace Go.Proofs.Ytpejcblmglbjfaa.trees
open Go.ChangeShapes Go.WideShapes Go.ChangeAt Go.RowKit
open pairs (Pair at0 PairsAt)
set_option linter.unusedVariables false
/-! ### How great -/
mutual
def nsz : Tree → Nat
  | .mk _ p l u x ds ats ks => p.size + l.size + u.size + (ds.length + pairs.sizeTo ds ds.length) + smallA ats + nszs ks + x.size
def nszs : List Tree → Nat
  | [] => 0
  | t :: ts => 1 + nsz t + nszs ts
end
def nszTo (L : List Tree) : Nat → Nat
  | 0 => 0
  | k + 1 => nszTo L k + nsz (kid L k)
theorem nszTo_cons (t : Tree) (ts : List Tree) : ∀ k, nszTo (t :: ts) (k + 1) = nsz t + nszTo ts k
  | 0 => by simp [nszTo, kid]
  | k + 1 => by
    rw [nszTo, nszTo_cons t ts k, nszTo]
    show _ + nsz (kid ts k) = _
    omega
theorem nszs_eq : ∀ L : List Tree, nszs L = L.length + nszTo L L.length
  | [] => by simp [nszs, nszTo]
  | t :: ts => by
    rw [nszs, nszs_eq ts, List.length_cons, nszTo_cons]
    omega
theorem nszTo_kid (L : List Tree) : ∀ {k i : Nat}, i < k → nsz (kid L i) ≤ nszTo L k
  | 0, i, h => by omega
  | k + 1, i, h => by
    rw [nszTo]
    by_cases e : i = k
    · rw [e]; omega
    · have := nszTo_kid L (k := k) (i := i) (by omega)
      omega
theorem nsz_kid (L : List Tree) (k : Nat) (h : k < L.length) : nsz (kid L k) ≤ nszs L := by
  have := nszTo_kid L h
  rw [nszs_eq]
  omega
/-! ### A struct's box -/
theorem box8 {w : World} {b : Nat} {t : TypeId} {c0 c1 c2 c3 c4 c5 c6 c7 : Value} (h : w.heap[b]? = some (.cells #[c0, c1, c2, c3, c4, c5, c6, c7] t (0, 0))) :
    w.cell? ⟨b, 0, none⟩ = some c0 ∧ w.cell? ⟨b, 1, none⟩ = some c1 ∧ w.cell? ⟨b, 2, none⟩ = some c2 ∧ w.cell? ⟨b, 3, none⟩ = some c3 ∧ w.cell? ⟨b, 4, none⟩ = some c4 ∧ w.cell? ⟨b, 5, none⟩ = some c5 ∧ w.cell? ⟨b, 6, none⟩ = some c6 ∧ w.cell? ⟨b, 7, none⟩ = some c7 := by
  simp [World.cell?, h]
theorem box_kept {w w' : World} {o : Obj} (hb : Below (w.alloc o).heap.size (w.alloc o) w') : w'.heap[w.heap.size]? = some o := (hb.block w.heap.size (by simp)).trans (heap_alloc_new w _)
theorem box_under {w w' : World} {o : Obj} (hb : Below (w.alloc o).heap.size (w.alloc o) w') : Below w.heap.size w w' := ((Below.refl _ _).alloc (Nat.le_refl _) o).trans (hb.mono (by simp))
/-- What szNode says of a node that is not great. -/
def SzOk (t : Tree) (h : Hdr) (w : World) (left : Nat) : Prop :=
  Calls Try.prog 30 #[.agg (vals t h), .int .i64 left] w fun e w' => (∃ r : Int, e = .returned (.int .i64 r) ∧ (0 ≤ r → r = (left : Int) - nsz t)) ∧ Below w.heap.size w w'
set_option maxRecDepth 100000 in
set_option maxHeartbeats 2000000 in
theorem sz_nodes_of (n B : Nat) (ih : ∀ t h w left, tsize t < n → left ≤ 1048576 → NodeIn w B t h → SzOk t h w left) (w : World) (a : Option Addr) (L : List Tree) (cap : Nat) (left : Nat) (hl : left ≤ 1048576) (hn : ksize L < n) (hL : Hid (NodesAt w B a L)) :
    Calls Try.prog 38 #[.slice a L.length cap, .int .i64 left] w fun e w' => (∃ r : Int, e = .returned (.int .i64 r) ∧ (0 ≤ r → r = (left : Int) - nszs L)) ∧ Below w.heap.size w w' := by
  have hlen := hL.out.short
  unfold maxLen at hlen
  have HIH : Hid (∀ t h w left, tsize t < n → left ≤ 1048576 → NodeIn w B t h → SzOk t h w left) := ih
  clear ih
  by_cases hb : (left : Int) - (L.length : Int) < 0
  · go_enter Try.func38, Try.ntmps38
    go_wp2
    go_ret
    exact ⟨⟨-1, rfl, fun h => by omega⟩, Below.refl _ _⟩
  · go_enter Try.func38, Try.ntmps38
    go_wp2
    go_loopw [1, 5] (fun l t wr => ∃ (k : Nat) (r : Nat), k ≤ L.length ∧ t = .int .i64 k ∧ l = .int .i64 r ∧ r ≤ 1048576 ∧ Hid ((r : Int) = left - L.length - nszTo L k) ∧ Hid (Below w.heap.size w wr)) (fun _ t _ => L.length - (intOf t).toNat)
    case atStart =>
      refine ⟨0, left - L.length, Nat.zero_le _, rfl, ?_, by omega, ?_, Below.refl _ _⟩
      · congr 1; omega
      · show _ = _; simp [nszTo]; omega
    case round =>
      obtain ⟨k, r, hk, rfl, rfl, hr1, hr, hbw⟩ := hrel
      by_cases hlt : k < L.length
      · obtain ⟨b, off, ha, hblt, hc⟩ := (hL.out.below hbw.out).row (by omega)
        obtain ⟨h, hnode, hc0, hc1, hc2, hc3, hc4, hc5, hc6, hc7⟩ := hc k hlt
        have hks := ksize_kid L k hlt
        have hst : nszTo L (k + 1) = nszTo L k + nsz (kid L k) := rfl
        have hS := HIH.out (kid L k) h wr r (by omega) hr1 hnode
        unfold SzOk at hS
        unfold vals at hS
        subst ha
        generalize kid L k = x at hc0 hc1 hc2 hc3 hc4 hc5 hc6 hc7 hS hst
        have HS : Hid _ := hS
        have HST : Hid _ := hst
        clear hS hst hc hnode hks
        go_wp2_with fail
        refine Calls.mono HS.out ?_
        rintro e w2 ⟨⟨r', rfl, hr'⟩, hb2⟩
        have HB2 : Hid _ := hbw.out.trans (hb2.mono hbw.out.size)
        clear hb2 HS
        by_cases hneg : r' < 0
        · go_wp2
          go_ret
          exact ⟨⟨-1, rfl, fun h => by omega⟩, HB2.out⟩
        · obtain ⟨q, rfl⟩ : ∃ q : Nat, r' = q := ⟨r'.toNat, by omega⟩
          have HR : Hid ((q : Int) = (r : Int) - nsz x) := hr' (by omega)
          have hle : q ≤ 1048576 := by have := HR.out; omega
          clear hr'
          go_wp2
          go_roundw
          case rel => exact ⟨k + 1, q, by omega, by go_num, rfl, hle, by show _ = _; rw [HR.out, hr.out, HST.out]; omega, HB2.out⟩
          case measure => simp [intOf]; omega
      · have HF : Hid ((r : Int) = (left : Int) - nszs L) := by
          have h1 := hr.out
          show (r : Int) = _
          rw [nszs_eq]
          rw [show k = L.length by omega] at h1
          omega
        go_wp2
        go_ret
        exact ⟨⟨_, rfl, fun _ => HF.out⟩, hbw.out⟩
set_option maxRecDepth 100000 in
set_option maxHeartbeats 4000000 in
theorem sz_node_of (n B : Nat) (ihS : ∀ (w : World) (a : Option Addr) (L : List Tree) (cap left : Nat), left ≤ 1048576 → ksize L < n → NodesAt w B a L → Calls Try.prog 38 #[.slice a L.length cap, .int .i64 left] w fun e w' => (∃ r : Int, e = .returned (.int .i64 r) ∧ (0 ≤ r → r = (left : Int) - nszs L)) ∧ Below w.heap.size w w')
    (t : Tree) (h : Hdr) (w : World) (left : Nat) (ht : tsize t ≤ n) (hl : left ≤ 1048576) (hn : NodeIn w B t h) : SzOk t h w left := by
  obtain ⟨k, p, l, u, x, ds, ats, ks⟩ := t
  obtain ⟨da, dc, aa, ac, ka, kc⟩ := h
  have HD : Hid (PairsAt w da ds) := hn.decls
  have HA : Hid (AttsAt w aa ats) := hn.atts
  have HK : Hid (NodesAt w B ka ks) := kids_at hn
  obtain ⟨-, z1, z2, z3, z4, -⟩ := hn.fit
  simp only [Tree.pre, Tree.loc, Tree.uri, Tree.text] at z1 z2 z3 z4
  unfold maxLen at z1 z2 z3 z4
  have HN : Hid (nsz (.mk k p l u x ds ats ks) = p.size + l.size + u.size + (ds.length + pairs.sizeTo ds ds.length) + smallA ats + nszs ks + x.size) := by show _ = _; rw [nsz]
  have HKS : Hid (ksize ks < n) := by rw [tsize] at ht; show _ < _; omega
  have HIS : Hid _ := ihS
  unfold SzOk
  rw [HN.out]
  simp only [vals, Tree.kind, Tree.pre, Tree.loc, Tree.uri, Tree.text, Tree.ds, Tree.ats, Tree.kids]
  clear ihS hn ht HN
  by_cases g0 : (left : Int) - p.size < 0
  · go_enter Try.func30, Try.ntmps30
    go_wp2
    go_ret
    exact ⟨⟨-1, rfl, fun h => by omega⟩, (Below.refl _ _).alloc (Nat.le_refl _) _⟩
  · by_cases g1 : (left : Int) - p.size - l.size < 0
    · go_enter Try.func30, Try.ntmps30
      go_wp2
      go_ret
      exact ⟨⟨-1, rfl, fun h => by omega⟩, (Below.refl _ _).alloc (Nat.le_refl _) _⟩
    · by_cases g2 : (left : Int) - p.size - l.size - u.size < 0
      · go_enter Try.func30, Try.ntmps30
        go_wp2
        go_ret
        exact ⟨⟨-1, rfl, fun h => by omega⟩, (Below.refl _ _).alloc (Nat.le_refl _) _⟩
      · obtain ⟨q, hq⟩ : ∃ q : Nat, (left : Int) - p.size - l.size - u.size = q := ⟨((left : Int) - p.size - l.size - u.size).toNat, by omega⟩
        have HQ : Hid _ := hq
        go_enter Try.func30, Try.ntmps30
        go_wp2_with fail
        refine (pairs.szx_DeclS _ da ds dc q (by omega) (HD.out.below (Nat.le_refl _) ((Below.refl _ _).alloc (Nat.le_refl _) _))).mono ?_
        rintro e w1 ⟨⟨r1, rfl, hr1⟩, hb1⟩
        obtain ⟨b0, b1, b2, b3, b4, b5, b6, b7⟩ := box8 (box_kept hb1)
        have HB1 : Hid _ := box_under hb1
        have HX1 : Hid _ := box_kept hb1
        clear hb1 hq
        by_cases g3 : r1 < 0
        · go_wp2
          go_ret
          exact ⟨⟨-1, rfl, fun h => by omega⟩, HB1.out⟩
        · obtain ⟨q1, rfl⟩ : ∃ q1 : Nat, r1 = q1 := ⟨r1.toNat, by omega⟩
          have HR1 : Hid _ := hr1 (by omega)
          have hq1 : q1 ≤ 1048576 := by have := HR1.out; have := HQ.out; omega
          clear hr1
          go_wp2_with fail
          refine (sz_atts _ aa ats ac q1 hq1 (HA.out.below (Nat.le_refl _) HB1.out)).mono ?_
          rintro e w2 ⟨⟨r2, rfl, hr2⟩, hb2⟩
          have HB2 : Hid _ := HB1.out.trans (hb2.mono HB1.out.size)
          have HX2 : Hid _ := (hb2.block _ (pairs.lt_heap HX1.out)).trans HX1.out
          clear hb2 b0 b1 b2 b3 b4 b5 b6 b7
          obtain ⟨b0, b1, b2, b3, b4, b5, b6, b7⟩ := box8 HX2.out
          by_cases g4 : r2 < 0
          · go_wp2
            go_ret
            exact ⟨⟨-1, rfl, fun h => by omega⟩, HB2.out⟩
          · obtain ⟨q2, rfl⟩ : ∃ q2 : Nat, r2 = q2 := ⟨r2.toNat, by omega⟩
            have HR2 : Hid _ := hr2 (by omega)
            have hq2 : q2 ≤ 1048576 := by have := HR2.out; omega
            clear hr2
            go_wp2_with fail
            refine (HIS.out _ ka ks kc q2 hq2 HKS.out (HK.out.below HB2.out)).mono ?_
            rintro e w3 ⟨⟨r3, rfl, hr3⟩, hb3⟩
            have HB3 : Hid _ := HB2.out.trans (hb3.mono HB2.out.size)
            have HX3 : Hid _ := (hb3.block _ (pairs.lt_heap HX2.out)).trans HX2.out
            clear hb3 b0 b1 b2 b3 b4 b5 b6 b7
            obtain ⟨b0, b1, b2, b3, b4, b5, b6, b7⟩ := box8 HX3.out
            by_cases g5 : r3 < 0
            · go_wp2
              go_ret
              exact ⟨⟨-1, rfl, fun h => by omega⟩, HB3.out⟩
            · obtain ⟨q3, rfl⟩ : ∃ q3 : Nat, r3 = q3 := ⟨r3.toNat, by omega⟩
              have HR3 : Hid _ := hr3 (by omega)
              have hq3 : q3 ≤ 1048576 := by have := HR3.out; omega
              clear hr3
              by_cases g6 : (q3 : Int) - x.size < 0
              · go_wp2
                go_ret
                exact ⟨⟨-1, rfl, fun h => by omega⟩, HB3.out⟩
              · have HF : Hid ((q3 : Int) - x.size = (left : Int) - ((p.size + l.size + u.size + (ds.length + pairs.sizeTo ds ds.length) + smallA ats + nszs ks + x.size : Nat) : Int)) := by
                  have e1 := HR1.out
                  have e2 := HR2.out
                  have e3 := HR3.out
                  have e4 := HQ.out
                  show _ = _
                  omega
                go_wp2
                go_ret
                exact ⟨⟨_, rfl, fun _ => HF.out⟩, HB3.out⟩
theorem sz_node (B : Nat) : ∀ n, ∀ (t : Tree) (h : Hdr) (w : World) (left : Nat), tsize t < n → left ≤ 1048576 → NodeIn w B t h → SzOk t h w left
  | 0, t, h, w, left, ht, _, _ => by omega
  | n + 1, t, h, w, left, ht, hl, hn =>
    sz_node_of n B (fun w a L cap left hl hk hL => sz_nodes_of n B (fun t h w left ht hl hn => sz_node B n t h w left ht hl hn) w a L cap left hl hk hL) t h w left (by omega) hl hn
theorem sz_nodes (B : Nat) (w : World) (a : Option Addr) (L : List Tree) (cap : Nat) (left : Nat) (hl : left ≤ 1048576) (hL : NodesAt w B a L) :
    Calls Try.prog 38 #[.slice a L.length cap, .int .i64 left] w fun e w' => (∃ r : Int, e = .returned (.int .i64 r) ∧ (0 ≤ r → r = (left : Int) - nszs L)) ∧ Below w.heap.size w w' :=
  sz_nodes_of (ksize L + 1) B (fun t h w left ht hl hn => sz_node B _ t h w left ht hl hn) w a L cap left hl (by omega) hL
end Go.Proofs.Ytpejcblmglbjfaa.trees
