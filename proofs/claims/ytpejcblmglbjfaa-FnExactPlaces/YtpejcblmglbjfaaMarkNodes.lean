/-
  The laws' marks in trees: laid.
-/
import Derived.Test.YtpejcblmglbjfaaMarkTreeP
import Derived.Test.YtpejcblmglbjfaaQuiet
namespace Go.Proofs.Ytpejcblmglbjfaa.trees
open Go.ChangeShapes Go.WideShapes Go.ChangeAt Go.RowKit
open pairs (Pair at0 PairsAt marksL marks_len)
open marks (markT)
set_option linter.unusedVariables false
theorem ret_nat {a b : Nat} (h : a = b) : Ending.returned (.int .i64 (a : Int)) = .returned (.int .i64 (b : Int)) := by rw [h]
theorem mark_n (k : Nat) (z : Int) (hz : z = k) (hk : k ≤ 1000000000) (w : World) : Calls Try.prog 77 #[.int .i64 z] w fun e w' => e = .returned (.string (markT k)) ∧ Below w.heap.size w w' := by subst hz; exact marks.mark_text k w hk
theorem str_one (x : Int) : (strOfNums [x]).size = 1 := rfl
theorem dig_size : ∀ (f k : Nat) (out : ByteArray), (marks.digF f k out).size ≤ out.size + k
  | 0, k, out => by rw [marks.digF]; omega
  | f + 1, k, out => by
    rw [marks.digF]
    by_cases h : 0 < k
    · rw [if_pos h]
      have := dig_size f (k / 10) (strOfNums [48 + (k : Int) % 10] ++ out)
      rw [ByteArray.size_append, str_one] at this
      omega
    · rw [if_neg h]; omega
theorem mark_size (k : Nat) : (markT k).size ≤ k + 2 := by
  unfold markT
  by_cases h : k = 0
  · rw [if_pos h]; show 2 ≤ _; omega
  · rw [if_neg h, ByteArray.size_append]
    have := dig_size k k ⟨#[]⟩
    have e : (⟨#[109]⟩ : ByteArray).size = 1 := rfl
    have e2 : (⟨#[]⟩ : ByteArray).size = 0 := rfl
    omega
/-! ### Attrs -/
/-- The first i of a row of Attrs are marks. -/
structure AtM (w : World) (g n k i : Nat) (cur : Array Value) (t : TypeId) : Prop where
  blk : w.heap[g]? = some (.cells cur t (0, 0))
  room : n * 4 ≤ cur.size
  done : ∀ j, j < i → cur[j * 4]? = some (.string (markT (k + 4 * j))) ∧ cur[j * 4 + 1]? = some (.string (markT (k + 4 * j + 1))) ∧ cur[j * 4 + 2]? = some (.string (markT (k + 4 * j + 2))) ∧ cur[j * 4 + 3]? = some (.string (markT (k + 4 * j + 3)))
theorem AtM.below {w w' : World} {g n k i : Nat} {cur : Array Value} {t : TypeId} (h : AtM w g n k i cur t) (hb : Below w.heap.size w w') : AtM w' g n k i cur t := ⟨(hb.block g (pairs.lt_heap h.blk)).trans h.blk, h.room, h.done⟩
theorem AtM.set {w : World} {g n k i : Nat} {cur : Array Value} {t : TypeId} (h : AtM w g n k i cur t) (q : Nat) (u : Value) : AtM (w.setCell ⟨g, i * 4 + q, none⟩ u) g n k i (cur.setIfInBounds (i * 4 + q) u) t := by
  refine ⟨pairs.block_set _ h.blk, by simpa using h.room, fun j hj => ?_⟩
  obtain ⟨a1, a2, a3, a4⟩ := h.done j hj
  exact ⟨by rw [Array.getElem?_setIfInBounds_ne (by omega)]; exact a1, by rw [Array.getElem?_setIfInBounds_ne (by omega)]; exact a2, by rw [Array.getElem?_setIfInBounds_ne (by omega)]; exact a3, by rw [Array.getElem?_setIfInBounds_ne (by omega)]; exact a4⟩
theorem AtM.four {w : World} {g n k i : Nat} {cur : Array Value} {t : TypeId} (hi : i < n) (h : AtM w g n k i ((((cur.setIfInBounds (i * 4) (.string (markT (k + 4 * i)))).setIfInBounds (i * 4 + 1) (.string (markT (k + 4 * i + 1)))).setIfInBounds (i * 4 + 2) (.string (markT (k + 4 * i + 2)))).setIfInBounds (i * 4 + 3) (.string (markT (k + 4 * i + 3)))) t) : ∃ cur', AtM w g n k (i + 1) cur' t := by
  refine ⟨_, h.blk, h.room, fun j hj => ?_⟩
  have hr := h.room
  simp only [Array.size_setIfInBounds] at hr
  by_cases e : j = i
  · subst e
    refine ⟨?_, ?_, ?_, ?_⟩
    · rw [Array.getElem?_setIfInBounds_ne (by omega), Array.getElem?_setIfInBounds_ne (by omega), Array.getElem?_setIfInBounds_ne (by omega), Array.getElem?_setIfInBounds_self_of_lt (by omega)]
    · rw [Array.getElem?_setIfInBounds_ne (by omega), Array.getElem?_setIfInBounds_ne (by omega), Array.getElem?_setIfInBounds_self_of_lt (by simp only [Array.size_setIfInBounds]; omega)]
    · rw [Array.getElem?_setIfInBounds_ne (by omega), Array.getElem?_setIfInBounds_self_of_lt (by simp only [Array.size_setIfInBounds]; omega)]
    · rw [Array.getElem?_setIfInBounds_self_of_lt (by simp only [Array.size_setIfInBounds]; omega)]
  · exact h.done j (by omega)
set_option maxRecDepth 100000 in
set_option maxHeartbeats 4000000 in
theorem mark_rowA (w : World) (g n cap k : Nat) (cur : Array Value) (ty : TypeId) (hn : n ≤ 4000000) (hk : k ≤ 100000000) (hM : AtM w g n k 0 cur ty) :
    Calls Try.prog 73 #[.slice (some ⟨g, 0, none⟩) n cap, .int .i64 k] w fun e w' => e = .returned (.int .i64 ((k + 4 * n : Nat) : Int)) ∧ (∃ cur', AtM w' g n k n cur' ty) ∧ w.grownBy w' (some g) := by
  have HM : Hid _ := hM
  clear hM
  go_enter Try.func73, Try.ntmps73
  go_wp2
  go_loopw [1, 5] (fun q t wr => ∃ (i : Nat) (c : Array Value), i ≤ n ∧ t = .int .i64 i ∧ q = .int .i64 ((k + 4 * i : Nat) : Int) ∧ Hid (AtM wr g n k i c ty) ∧ Hid (w.grownBy wr (some g))) (fun _ t _ => n - (intOf t).toNat)
  case atStart => exact ⟨0, _, Nat.zero_le _, rfl, rfl, HM, pairs.grown_refl _ _⟩
  case round =>
    obtain ⟨i, c, hi, rfl, rfl, hm, hgr⟩ := hrel
    by_cases hlt : i < n
    · have hr := hm.out.room
      go_wp2_with fail
      refine (mark_n (k + 4 * i) _ (by omega) (by omega) _).mono ?_
      rintro e w2 ⟨rfl, hb2⟩
      have H2 : Hid _ := hm.out.below hb2
      have G2 : Hid _ := pairs.grown_trans hgr.out (pairs.grown_below (g := g) hb2)
      obtain ⟨hc, hf⟩ := pairs.blk_cell (i := i * 4) H2.out.blk (by omega)
      have S2 : Hid _ := H2.out.set 0 (.string (markT (k + 4 * i)))
      have T2 : Hid _ := pairs.grown_trans G2.out (pairs.grown_set w2 g (i * 4) (.string (markT (k + 4 * i))))
      clear hb2 H2 G2
      go_wp2_with fail
      refine (mark_n (k + 4 * i + 1) _ (by omega) (by omega) _).mono ?_
      rintro e w3 ⟨rfl, hb3⟩
      have H3 : Hid _ := S2.out.below hb3
      have G3 : Hid _ := pairs.grown_trans T2.out (pairs.grown_below (g := g) hb3)
      clear hc hf
      obtain ⟨hc, hf⟩ := pairs.blk_cell (i := i * 4 + 1) H3.out.blk (by simp; omega)
      have S3 : Hid _ := H3.out.set 1 (.string (markT (k + 4 * i + 1)))
      have T3 : Hid _ := pairs.grown_trans G3.out (pairs.grown_set w3 g (i * 4 + 1) (.string (markT (k + 4 * i + 1))))
      clear hb3 H3 G3 S2 T2
      go_wp2_with fail
      refine (mark_n (k + 4 * i + 2) _ (by omega) (by omega) _).mono ?_
      rintro e w4 ⟨rfl, hb4⟩
      have H4 : Hid _ := S3.out.below hb4
      have G4 : Hid _ := pairs.grown_trans T3.out (pairs.grown_below (g := g) hb4)
      clear hc hf
      obtain ⟨hc, hf⟩ := pairs.blk_cell (i := i * 4 + 2) H4.out.blk (by simp; omega)
      have S4 : Hid _ := H4.out.set 2 (.string (markT (k + 4 * i + 2)))
      have T4 : Hid _ := pairs.grown_trans G4.out (pairs.grown_set w4 g (i * 4 + 2) (.string (markT (k + 4 * i + 2))))
      clear hb4 H4 G4 S3 T3
      go_wp2_with fail
      refine (mark_n (k + 4 * i + 3) _ (by omega) (by omega) _).mono ?_
      rintro e w5 ⟨rfl, hb5⟩
      have H5 : Hid _ := S4.out.below hb5
      have G5 : Hid _ := pairs.grown_trans T4.out (pairs.grown_below (g := g) hb5)
      clear hc hf
      obtain ⟨hc, hf⟩ := pairs.blk_cell (i := i * 4 + 3) H5.out.blk (by simp; omega)
      have S5 : Hid _ := H5.out.set 3 (.string (markT (k + 4 * i + 3)))
      have T5 : Hid _ := pairs.grown_trans G5.out (pairs.grown_set w5 g (i * 4 + 3) (.string (markT (k + 4 * i + 3))))
      clear hb5 H5 G5 S4 T4
      obtain ⟨c', hc'⟩ := AtM.four hlt S5.out
      have HC : Hid _ := hc'
      clear hc' S5
      go_wp2
      go_roundw
      case rel => exact ⟨i + 1, c', by omega, by go_num, (by congr 1), HC.out, T5.out⟩
      case measure => simp [intOf]; omega
    · obtain rfl : i = n := by omega
      go_wp2
      go_ret
      exact ⟨rfl, ⟨_, hm.out⟩, hgr.out⟩
set_option maxRecDepth 100000 in
theorem mark_empA (a : Option Addr) (cap k : Nat) (w : World) : Calls Try.prog 73 #[.slice a 0 cap, .int .i64 k] w fun e w' => e = .returned (.int .i64 k) ∧ w' = w := by
  go_enter Try.func73, Try.ntmps73
  go_wp2
  go_loop [1, 5] (fun q t => q = .int .i64 (k : Int) ∧ t = .int .i64 0) (fun _ _ => 0)
  case atStart => exact ⟨rfl, rfl⟩
  case round =>
    obtain ⟨rfl, rfl⟩ := hrel
    go_wp2
    go_ret
    exact ⟨rfl, rfl⟩
/-- Marks in an owned row of Attrs. -/
theorem mark_ownA (w : World) (a : Option Addr) (L : List Att) (cap k : Nat) (F : Bset) (hn : L.length ≤ 4000000) (hk : k ≤ 100000000) (hL : OwnA w a L F) :
    Calls Try.prog 73 #[.slice a L.length cap, .int .i64 k] w fun e w' => e = .returned (.int .i64 ((k + 4 * L.length : Nat) : Int)) ∧ OwnA w' a (marksA k L.length) F ∧ Out F w w' := by
  by_cases h0 : 0 < L.length
  · obtain ⟨g, rfl, hg, cur, ty, h1, h2, h3⟩ := hL h0
    refine (mark_rowA w g L.length cap k cur ty hn hk ⟨h1, h2, fun j hj => by omega⟩).mono ?_
    rintro e w' ⟨rfl, ⟨cur', hm⟩, hgr⟩
    refine ⟨rfl, fun _ => ⟨g, rfl, hg, cur', ty, hm.blk, by rw [marksA_len]; exact hm.room, fun j hj => ?_⟩, Out.grown hgr hg⟩
    rw [marksA_len] at hj
    rw [marksA_at _ _ _ hj]
    exact hm.done j hj
  · have e0 : L = [] := List.length_eq_zero_iff.1 (by omega)
    subst e0
    refine (mark_empA a cap k w).mono ?_
    rintro e w' ⟨rfl, rfl⟩
    exact ⟨rfl, fun h => absurd h (by simp [marksA]), Out.refl _ _⟩
set_option maxRecDepth 100000 in
theorem mark_empP (a : Option Addr) (cap k : Nat) (w : World) : Calls Try.prog 72 #[.slice a 0 cap, .int .i64 k] w fun e w' => e = .returned (.int .i64 k) ∧ w' = w := by
  go_enter Try.func72, Try.ntmps72
  go_wp2
  go_loop [1, 5] (fun q t => q = .int .i64 (k : Int) ∧ t = .int .i64 0) (fun _ _ => 0)
  case atStart => exact ⟨rfl, rfl⟩
  case round =>
    obtain ⟨rfl, rfl⟩ := hrel
    go_wp2
    go_ret
    exact ⟨rfl, rfl⟩
theorem mark_ownP (w : World) (a : Option Addr) (L : List Pair) (cap k : Nat) (F : Bset) (hn : L.length ≤ 4000000) (hk : k ≤ 100000000) (hL : OwnP w a L F) :
    Calls Try.prog 72 #[.slice a L.length cap, .int .i64 k] w fun e w' => e = .returned (.int .i64 ((k + 2 * L.length : Nat) : Int)) ∧ OwnP w' a (marksL k L.length) F ∧ Out F w w' := by
  by_cases h0 : 0 < L.length
  · obtain ⟨g, rfl, hg, hm⟩ := hL h0
    refine (pairs.mark_DeclS w g L.length cap k hn hk (hm.forget (marks_len _ _))).mono ?_
    rintro e w' ⟨rfl, hm', hgr⟩
    refine ⟨rfl, fun _ => ⟨g, rfl, hg, ?_⟩, Out.grown hgr hg⟩
    rw [marks_len]
    exact hm'
  · have e0 : L = [] := List.length_eq_zero_iff.1 (by omega)
    subst e0
    refine (mark_empP a cap k w).mono ?_
    rintro e w' ⟨rfl, rfl⟩
    exact ⟨rfl, fun h => absurd h (by simp [marksL]), Out.refl _ _⟩
theorem mark_ownPz (w : World) (a : Option Addr) (L : List Pair) (cap k : Nat) (z : Int) (F : Bset) (hz : z = k) (hn : L.length ≤ 4000000) (hk : k ≤ 100000000) (hL : OwnP w a L F) :
    Calls Try.prog 72 #[.slice a L.length cap, .int .i64 z] w fun e w' => e = .returned (.int .i64 ((k + 2 * L.length : Nat) : Int)) ∧ OwnP w' a (marksL k L.length) F ∧ Out F w w' := by subst hz; exact mark_ownP w a L cap k F hn hk hL
/-- What stands still around the node that is being written. -/
structure Sx where
  g : Nat
  i : Nat
  n : Nat
  ty : TypeId
  F : Bset
  FD : Bset
  FA : Bset
  FK : Bset
  G : Nat → Bset
  T : Nat → Tree
  h : Hdr
  nd : Nat
  na : Nat
  nk : Nat
structure Sx.Ok (s : Sx) : Prop where
  lt : s.i < s.n
  mem : s.F s.g
  sub : ∀ j, Inc (s.G j) s.F
  not : ∀ j, ¬ s.G j s.g
  apart : ∀ j k, j ≠ k → Apart (s.G j) (s.G k)
  sd : Inc s.FD (s.G s.i)
  sa : Inc s.FA (s.G s.i)
  sk : Inc s.FK (s.G s.i)
  da : Apart s.FD s.FA
  dk : Apart s.FD s.FK
  ak : Apart s.FA s.FK
structure St (s : Sx) (w wX : World) (cur : Array Value) (D : List Pair) (A : List Att) (K : List Tree) : Prop where
  blk : wX.heap[s.g]? = some (.cells cur s.ty (0, 0))
  room : s.n * 8 ≤ cur.size
  c4 : cur[s.i * 8 + 4]? = some (.slice s.h.da s.nd s.h.dc)
  c5 : cur[s.i * 8 + 5]? = some (.slice s.h.aa s.na s.h.ac)
  c6 : cur[s.i * 8 + 6]? = some (.slice s.h.ka s.nk s.h.kc)
  oth : ∀ j, j < s.n → j ≠ s.i → ∃ h, OwnN wX (s.T j) h (s.G j) ∧ ∀ q, q < 8 → cur[j * 8 + q]? = (vals (s.T j) h)[q]?
  ds : OwnP wX s.h.da D s.FD
  ats : OwnA wX s.h.aa A s.FA
  kids : OwnL wX s.h.ka K s.FK
  out : Out s.F w wX
theorem St.below {s : Sx} {w wX w2 : World} {cur : Array Value} {D : List Pair} {A : List Att} {K : List Tree} (h : St s w wX cur D A K) (hb : Below wX.heap.size wX w2) : St s w w2 cur D A K :=
  ⟨(hb.block _ (pairs.lt_heap h.blk)).trans h.blk, h.room, h.c4, h.c5, h.c6, fun j hj hne => by
    obtain ⟨h', e1, e2⟩ := h.oth j hj hne
    exact ⟨h', e1.below hb, e2⟩, h.ds.out (G := fun _ => False) (Out.of_below hb) (none_apart _), h.ats.out (G := fun _ => False) (Out.of_below hb) (none_apart _), h.kids.below hb, h.out.trans (Out.of_below hb)⟩
theorem St.set {s : Sx} {w wX : World} {cur : Array Value} {D : List Pair} {A : List Att} {K : List Tree} (h : St s w wX cur D A K) (ok : s.Ok) (q : Nat) (hq : q < 4 ∨ q = 7) (u : Value) : St s w (wX.setCell ⟨s.g, s.i * 8 + q, none⟩ u) (cur.setIfInBounds (s.i * 8 + q) u) D A K := by
  have ho : Out (fun b => b = s.g) wX (wX.setCell ⟨s.g, s.i * 8 + q, none⟩ u) := (Out.refl _ _).set (F := fun b => b = s.g) rfl _ _
  have hg : ∀ {H : Bset} {j : Nat}, Inc H (s.G j) → Apart H (fun b => b = s.g) := fun hs b hb e => ok.not _ (e ▸ hs b hb)
  refine ⟨pairs.block_set _ h.blk, by simpa using h.room, by rw [Array.getElem?_setIfInBounds_ne (by omega)]; exact h.c4, by rw [Array.getElem?_setIfInBounds_ne (by omega)]; exact h.c5, by rw [Array.getElem?_setIfInBounds_ne (by omega)]; exact h.c6, fun j hj hne => ?_, h.ds.out ho (hg ok.sd), h.ats.out ho (hg ok.sa), h.kids.out ho (hg ok.sk), h.out.set ok.mem _ _⟩
  obtain ⟨h', e1, e2⟩ := h.oth j hj hne
  refine ⟨h', e1.out ho (hg (Inc.refl _)), fun q' hq' => ?_⟩
  rw [Array.getElem?_setIfInBounds_ne (by omega)]
  exact e2 q' hq'
theorem St.turn {s : Sx} {w wX w2 : World} {cur : Array Value} {D : List Pair} {A : List Att} {K : List Tree} (h : St s w wX cur D A K) (ok : s.Ok) {B : Bset} (hB : Inc B (s.G s.i)) (ho : Out B wX w2) :
    w2.heap[s.g]? = some (.cells cur s.ty (0, 0)) ∧ (∀ j, j < s.n → j ≠ s.i → ∃ h, OwnN w2 (s.T j) h (s.G j) ∧ ∀ q, q < 8 → cur[j * 8 + q]? = (vals (s.T j) h)[q]?) ∧ Out s.F w w2 := by
  refine ⟨(ho.block _ (pairs.lt_heap h.blk) (fun hb => ok.not _ (hB _ hb))).trans h.blk, fun j hj hne => ?_, h.out.trans (ho.mono (hB.trans (ok.sub _)))⟩
  obtain ⟨h', e1, e2⟩ := h.oth j hj hne
  exact ⟨h', e1.out ho ((ok.apart _ _ hne).sub (Inc.refl _) hB), e2⟩
theorem St.turnD {s : Sx} {w wX w2 : World} {cur : Array Value} {D D' : List Pair} {A : List Att} {K : List Tree} (h : St s w wX cur D A K) (ok : s.Ok) (ho : Out s.FD wX w2) (hd : OwnP w2 s.h.da D' s.FD) : St s w w2 cur D' A K := by
  obtain ⟨h1, h2, h3⟩ := h.turn ok ok.sd ho
  exact ⟨h1, h.room, h.c4, h.c5, h.c6, h2, hd, h.ats.out ho ok.da.symm, h.kids.out ho ok.dk.symm, h3⟩
theorem St.turnA {s : Sx} {w wX w2 : World} {cur : Array Value} {D : List Pair} {A A' : List Att} {K : List Tree} (h : St s w wX cur D A K) (ok : s.Ok) (ho : Out s.FA wX w2) (hd : OwnA w2 s.h.aa A' s.FA) : St s w w2 cur D A' K := by
  obtain ⟨h1, h2, h3⟩ := h.turn ok ok.sa ho
  exact ⟨h1, h.room, h.c4, h.c5, h.c6, h2, h.ds.out ho ok.da, hd, h.kids.out ho ok.ak.symm, h3⟩
theorem St.turnK {s : Sx} {w wX w2 : World} {cur : Array Value} {D : List Pair} {A : List Att} {K K' : List Tree} (h : St s w wX cur D A K) (ok : s.Ok) (ho : Out s.FK wX w2) (hd : OwnL w2 s.h.ka K' s.FK) : St s w w2 cur D A K' := by
  obtain ⟨h1, h2, h3⟩ := h.turn ok ok.sk ho
  exact ⟨h1, h.room, h.c4, h.c5, h.c6, h2, h.ds.out ho ok.dk, h.ats.out ho ok.ak, hd, h3⟩
/-- The trees of the row when i of them are marked. -/
def half (L : List Tree) (m i j : Nat) : Tree := if j < i then mkT (kid L j) (m + cntMTo L j) else kid L j
structure Mid (w wr : World) (g : Nat) (ty : TypeId) (F : Bset) (G : Nat → Bset) (L : List Tree) (m i : Nat) (cur : Array Value) : Prop where
  blk : wr.heap[g]? = some (.cells cur ty (0, 0))
  room : L.length * 8 ≤ cur.size
  all : ∀ j, j < L.length → ∃ h, OwnN wr (half L m i j) h (G j) ∧ ∀ q, q < 8 → cur[j * 8 + q]? = (vals (half L m i j) h)[q]?
  out : Out F w wr
theorem half_ne {L : List Tree} {m i j : Nat} (h : j ≠ i) : half L m (i + 1) j = half L m i j := by
  unfold half
  by_cases e : j < i
  · rw [if_pos (by omega), if_pos e]
  · rw [if_neg (by omega), if_neg e]
theorem half_at {L : List Tree} {m i : Nat} : half L m i i = kid L i := if_neg (by omega)
theorem half_done {L : List Tree} {m i : Nat} : half L m (i + 1) i = mkT (kid L i) (m + cntMTo L i) := if_pos (by omega)
theorem half_zero {L : List Tree} {m j : Nat} : half L m 0 j = kid L j := if_neg (by omega)
theorem St.load {s : Sx} {w wX : World} {cur : Array Value} {D : List Pair} {A : List Att} {K : List Tree} (h : St s w wX cur D A K) : wX.cell? ⟨s.g, s.i * 8 + 4, none⟩ = some (.slice s.h.da s.nd s.h.dc) ∧ wX.cell? ⟨s.g, s.i * 8 + 5, none⟩ = some (.slice s.h.aa s.na s.h.ac) ∧ wX.cell? ⟨s.g, s.i * 8 + 6, none⟩ = some (.slice s.h.ka s.nk s.h.kc) :=
  ⟨by simp [World.cell?, h.blk, h.c4], by simp [World.cell?, h.blk, h.c5], by simp [World.cell?, h.blk, h.c6]⟩
theorem St.cell {s : Sx} {w wX : World} {cur : Array Value} {D : List Pair} {A : List Att} {K : List Tree} (h : St s w wX cur D A K) (ok : s.Ok) (q : Nat) (hq : q < 8) : ∃ c, wX.cell? ⟨s.g, s.i * 8 + q, none⟩ = some c ∧ wX.frozen? ⟨s.g, s.i * 8 + q, none⟩ = false := by
  have h1 := h.room
  have h2 := ok.lt
  obtain ⟨a, b⟩ := pairs.blk_cell (i := s.i * 8 + q) h.blk (by omega)
  exact ⟨_, a, b⟩
def chain5 (cur : Array Value) (i : Nat) (u0 u1 u2 u3 u7 : Value) : Array Value := ((((cur.setIfInBounds (i * 8 + 0) u0).setIfInBounds (i * 8 + 1) u1).setIfInBounds (i * 8 + 2) u2).setIfInBounds (i * 8 + 3) u3).setIfInBounds (i * 8 + 7) u7
theorem St.fin {s : Sx} {w wX : World} {cur : Array Value} {u0 u1 u2 u3 u7 : Value} {t : Tree} (h : St s w wX (chain5 cur s.i u0 u1 u2 u3 u7) t.ds t.ats t.kids) (ok : s.Ok) (ht : vals t s.h = #[u0, u1, u2, u3, .slice s.h.da s.nd s.h.dc, .slice s.h.aa s.na s.h.ac, .slice s.h.ka s.nk s.h.kc, u7]) (hf : t.fits ∧ t.kids.length ≤ s.h.kc) (hd : PFit t.ds) (ha : AFit t.ats) :
    OwnN wX t s.h (s.G s.i) ∧ ∀ q, q < 8 → (chain5 cur s.i u0 u1 u2 u3 u7)[s.i * 8 + q]? = (vals t s.h)[q]? := by
  refine ⟨PartsN.node ⟨hf, hd, ha, ok.sd, ok.sa, ok.sk, ok.da, ok.dk, ok.ak, h.ds, h.ats, h.kids⟩, fun q hq => ?_⟩
  have h1 := h.room
  have h2 := ok.lt
  have hs : (chain5 cur s.i u0 u1 u2 u3 u7).size = cur.size := by simp [chain5]
  rw [hs] at h1
  rw [ht]
  have h4 := h.c4
  have h5 := h.c5
  have h6 := h.c6
  rcases (show q = 0 ∨ q = 1 ∨ q = 2 ∨ q = 3 ∨ q = 4 ∨ q = 5 ∨ q = 6 ∨ q = 7 by omega) with rfl | rfl | rfl | rfl | rfl | rfl | rfl | rfl
  · unfold chain5
    rw [Array.getElem?_setIfInBounds_ne (by omega), Array.getElem?_setIfInBounds_ne (by omega), Array.getElem?_setIfInBounds_ne (by omega), Array.getElem?_setIfInBounds_ne (by omega), Array.getElem?_setIfInBounds_self_of_lt (by omega)]; rfl
  · unfold chain5
    rw [Array.getElem?_setIfInBounds_ne (by omega), Array.getElem?_setIfInBounds_ne (by omega), Array.getElem?_setIfInBounds_ne (by omega), Array.getElem?_setIfInBounds_self_of_lt (by simp only [Array.size_setIfInBounds]; omega)]; rfl
  · unfold chain5
    rw [Array.getElem?_setIfInBounds_ne (by omega), Array.getElem?_setIfInBounds_ne (by omega), Array.getElem?_setIfInBounds_self_of_lt (by simp only [Array.size_setIfInBounds]; omega)]; rfl
  · unfold chain5
    rw [Array.getElem?_setIfInBounds_ne (by omega), Array.getElem?_setIfInBounds_self_of_lt (by simp only [Array.size_setIfInBounds]; omega)]; rfl
  · exact h4
  · exact h5
  · exact h6
  · unfold chain5
    rw [Array.getElem?_setIfInBounds_self_of_lt (by simp only [Array.size_setIfInBounds]; omega)]; rfl
theorem marks_fit (k n : Nat) (hn : n ≤ 4000000) (hk : k ≤ 100000000) : PFit (marksL k n) := by
  refine ⟨by rw [marks_len]; unfold maxLen; omega, fun i hi => ?_⟩
  rw [marks_len] at hi
  rw [pairs.marks_at _ _ _ hi]
  have h1 := mark_size (k + 2 * i)
  have h2 := mark_size (k + 2 * i + 1)
  unfold maxLen
  exact ⟨Nat.le_trans h1 (by omega), Nat.le_trans h2 (by omega)⟩
theorem marksA_fit (k n : Nat) (hn : n ≤ 4000000) (hk : k ≤ 100000000) : AFit (marksA k n) := by
  refine ⟨by rw [marksA_len]; unfold maxLen; omega, fun i hi => ?_⟩
  rw [marksA_len] at hi
  rw [marksA_at _ _ _ hi]
  have h0 := mark_size (k + 4 * i)
  have h1 := mark_size (k + 4 * i + 1)
  have h2 := mark_size (k + 4 * i + 2)
  have h3 := mark_size (k + 4 * i + 3)
  unfold Att.fits maxLen
  exact ⟨Nat.le_trans h0 (by omega), Nat.le_trans h1 (by omega), Nat.le_trans h2 (by omega), Nat.le_trans h3 (by omega)⟩
def MarkOk (L : List Tree) (a : Option Addr) (cap m : Nat) (F : Bset) (w : World) : Prop :=
  Calls Try.prog 41 #[.slice a L.length cap, .int .i64 m] w fun e w' => e = .returned (.int .i64 ((m + cntMs L : Nat) : Int)) ∧ OwnL w' a (mkTs L m) F ∧ Out F w w'
set_option maxRecDepth 100000 in
theorem mark_empN (a : Option Addr) (cap k : Nat) (w : World) : Calls Try.prog 41 #[.slice a 0 cap, .int .i64 k] w fun e w' => e = .returned (.int .i64 k) ∧ w' = w := by
  go_enter Try.func41, Try.ntmps41
  go_wp2
  go_loop [1, 5] (fun q t => q = .int .i64 (k : Int) ∧ t = .int .i64 0) (fun _ _ => 0)
  case atStart => exact ⟨rfl, rfl⟩
  case round =>
    obtain ⟨rfl, rfl⟩ := hrel
    go_wp2
    go_ret
    exact ⟨rfl, rfl⟩
theorem mkT_vals (t : Tree) (h : Hdr) (m : Nat) : vals (mkT t m) h = #[.int .i64 m, .string (markT (m + 1)), .string (markT (m + 2)), .string (markT (m + 3)), .slice h.da t.ds.length h.dc, .slice h.aa t.ats.length h.ac, .slice h.ka t.kids.length h.kc, .string (markT (m + 4 + 2 * t.ds.length + 4 * t.ats.length + cntMs t.kids))] := by
  obtain ⟨k, p, l, u, x, ds, ats, ks⟩ := t
  rw [mkT]
  simp only [vals, Tree.kind, Tree.pre, Tree.loc, Tree.uri, Tree.text, Tree.ds, Tree.ats, Tree.kids, marks_len, marksA_len, mkTs_len]
theorem mkT_ds (t : Tree) (m : Nat) : (mkT t m).ds = marksL (m + 4) t.ds.length := by cases t; rw [mkT]; rfl
theorem mkT_ats (t : Tree) (m : Nat) : (mkT t m).ats = marksA (m + 4 + 2 * t.ds.length) t.ats.length := by cases t; rw [mkT]; rfl
theorem mkT_kids (t : Tree) (m : Nat) : (mkT t m).kids = mkTs t.kids (m + 4 + 2 * t.ds.length + 4 * t.ats.length) := by cases t; rw [mkT]; rfl
theorem cntM_eq (t : Tree) : cntM t = 5 + 2 * t.ds.length + 4 * t.ats.length + cntMs t.kids := by cases t; rw [cntM]; rfl
theorem nsz_lens (t : Tree) : t.ds.length ≤ nsz t ∧ t.ats.length ≤ nsz t ∧ nszs t.kids ≤ nsz t ∧ t.kids.length ≤ nsz t := by
  obtain ⟨k, p, l, u, x, ds, ats, ks⟩ := t
  have := nszs_eq ks
  rw [nsz]
  unfold smallA
  simp only [Tree.ds, Tree.ats, Tree.kids]
  omega
theorem mkT_fits (t : Tree) (m : Nat) (hz : nsz t ≤ 1048576) (hm : m + cntM t ≤ 50000000) : (mkT t m).fits := by
  have h0 := nsz_lens t
  rw [cntM_eq] at hm
  have e := mkT_kids t m
  have s1 := mark_size (m + 1)
  have s2 := mark_size (m + 2)
  have s3 := mark_size (m + 3)
  have s4 := mark_size (m + 4 + 2 * t.ds.length + 4 * t.ats.length + cntMs t.kids)
  unfold Tree.fits
  rw [e, mkTs_len]
  obtain ⟨k, p, l, u, x, ds, ats, ks⟩ := t
  rw [mkT]
  simp only [Tree.kind, Tree.pre, Tree.loc, Tree.uri, Tree.text, Tree.ds, Tree.ats, Tree.kids] at *
  unfold maxLen
  omega
set_option maxRecDepth 100000 in
set_option maxHeartbeats 8000000 in
theorem mark_nodes_of (n : Nat) (ih : ∀ (L : List Tree) (a : Option Addr) (cap m : Nat) (F : Bset) (w : World), ksize L < n → nszs L ≤ 1048576 → m + cntMs L ≤ 50000000 → OwnL w a L F → MarkOk L a cap m F w)
    (L : List Tree) (a : Option Addr) (cap m : Nat) (F : Bset) (w : World) (hn : ksize L ≤ n) (hz : nszs L ≤ 1048576) (hm : m + cntMs L ≤ 50000000) (hL : OwnL w a L F) : MarkOk L a cap m F w := by
  by_cases h0 : 0 < L.length
  · obtain ⟨g, cur0, ty, G, rfl, hrow⟩ := hL h0
    have HROW : Hid _ := hrow
    have HIH : Hid _ := ih
    have HN : Hid _ := hn
    have HZ : Hid _ := hz
    have HM : Hid _ := hm
    have hlz : L.length ≤ 1048576 := by have := nszs_eq L; omega
    have HCM : Hid (cntMs L = cntMTo L L.length) := cntMs_eq L
    have H0 : Hid (Mid w w g ty F G L m 0 cur0) := ⟨hrow.blk, hrow.room, fun j hj => by rw [half_zero]; exact hrow.kids j hj, Out.refl _ _⟩
    unfold MarkOk
    clear hL hrow ih hn hz hm
    go_enter Try.func41, Try.ntmps41
    go_wp2
    go_loopw [1, 5] (fun q t wr => ∃ (i : Nat) (c : Array Value), i ≤ L.length ∧ t = .int .i64 i ∧ q = .int .i64 ((m + cntMTo L i : Nat) : Int) ∧ Hid (Mid w wr g ty F G L m i c)) (fun _ t _ => L.length - (intOf t).toNat)
    case atStart => exact ⟨0, cur0, Nat.zero_le _, rfl, rfl, H0⟩
    case round =>
      obtain ⟨i, c, hi, rfl, rfl, hmid⟩ := hrel
      by_cases hlt : i < L.length
      · obtain ⟨h, hown, hcells⟩ := hmid.out.all i hlt
        rw [half_at] at hown hcells
        obtain ⟨FD, FA, FK, hp⟩ := hown.parts
        have HRM : Hid ((kid L i).kids.length ≤ h.kc) := hp.fit.2
        have hok : Sx.Ok ⟨g, i, L.length, ty, F, FD, FA, FK, G, half L m i, h, (kid L i).ds.length, (kid L i).ats.length, (kid L i).kids.length⟩ := ⟨hlt, HROW.out.mem, HROW.out.sub, HROW.out.not, HROW.out.apart, hp.sd, hp.sa, hp.sk, hp.da, hp.dk, hp.ak⟩
        have hst : St ⟨g, i, L.length, ty, F, FD, FA, FK, G, half L m i, h, (kid L i).ds.length, (kid L i).ats.length, (kid L i).kids.length⟩ w wr c (kid L i).ds (kid L i).ats (kid L i).kids :=
          ⟨hmid.out.blk, hmid.out.room, hcells 4 (by omega), hcells 5 (by omega), hcells 6 (by omega), fun j hj _ => hmid.out.all j hj, hp.ds, hp.ats, hp.kids, hmid.out.out⟩
        have hzk := nsz_kid L i hlt
        have hnl := nsz_lens (kid L i)
        have hcm := cntM_eq (kid L i)
        have hmo := cntMTo_mono L (show i + 1 ≤ L.length by omega)
        have hst1 : cntMTo L (i + 1) = cntMTo L i + cntM (kid L i) := rfl
        have hHZ := HZ.out
        have hHM := HM.out
        have hHC := HCM.out
        have hksz : ksize (kid L i).kids < n := by
          have h1 := ksize_kid L i hlt
          have h2 := HN.out
          have h3 : ksize (kid L i).kids < tsize (kid L i) := by cases kid L i; rw [tsize]; show ksize _ < _; simp only [Tree.kids]; omega
          omega
        have HMARK : Hid (∀ W, OwnL W h.ka (kid L i).kids FK → MarkOk (kid L i).kids h.ka h.kc (m + cntMTo L i + 4 + 2 * (kid L i).ds.length + 4 * (kid L i).ats.length) FK W) := fun W hW => HIH.out _ _ _ _ _ W hksz (by omega) (by omega) hW
        have HFIN : Hid (∀ (c' : Array Value) W, St ⟨g, i, L.length, ty, F, FD, FA, FK, G, half L m i, h, (kid L i).ds.length, (kid L i).ats.length, (kid L i).kids.length⟩ w W (chain5 c' i (.int .i64 ((m + cntMTo L i : Nat) : Int)) (.string (markT (m + cntMTo L i + 1))) (.string (markT (m + cntMTo L i + 2))) (.string (markT (m + cntMTo L i + 3))) (.string (markT (m + cntMTo L i + 4 + 2 * (kid L i).ds.length + 4 * (kid L i).ats.length + cntMs (kid L i).kids)))) (marksL (m + cntMTo L i + 4) (kid L i).ds.length) (marksA (m + cntMTo L i + 4 + 2 * (kid L i).ds.length) (kid L i).ats.length) (mkTs (kid L i).kids (m + cntMTo L i + 4 + 2 * (kid L i).ds.length + 4 * (kid L i).ats.length)) → ∃ c2, Mid w W g ty F G L m (i + 1) c2) := fun c' W hs => by
          have hfin := St.fin (t := mkT (kid L i) (m + cntMTo L i)) (by rw [mkT_ds, mkT_ats, mkT_kids]; exact hs) hok (mkT_vals _ _ _) ⟨mkT_fits _ _ (by omega) (by omega), by rw [mkT_kids, mkTs_len]; exact HRM.out⟩ (by rw [mkT_ds]; exact marks_fit _ _ (by omega) (by omega)) (by rw [mkT_ats]; exact marksA_fit _ _ (by omega) (by omega))
          refine ⟨_, hs.blk, hs.room, fun j hj => ?_, hs.out⟩
          by_cases e : j = i
          · subst e
            rw [half_done]
            exact ⟨h, hfin⟩
          · rw [half_ne e]
            exact hs.oth j hj e
        have HST : Hid _ := hst
        have HOK : Hid _ := hok
        have HSTEP : Hid (cntMTo L (i + 1) = cntMTo L i + cntM (kid L i)) := hst1
        rw [hcm] at HSTEP
        have hb1 : (kid L i).ds.length ≤ 1048576 := by omega
        have hb2 : (kid L i).ats.length ≤ 1048576 := by omega
        have hb3 : (kid L i).kids.length ≤ 1048576 := by omega
        have hb4 : m + cntMTo L i + 4 + 2 * (kid L i).ds.length + 4 * (kid L i).ats.length + cntMs (kid L i).kids ≤ 50000000 := by omega
        clear hst hok hp hown hcells hzk hnl hcm hmo hst1 hHZ hHM hHC hksz
        generalize (kid L i).ds = D at *
        generalize (kid L i).ats = A at *
        generalize (kid L i).kids = K at *
        generalize hN0 : m + cntMTo L i = N0 at *
        have HN0 : Hid (m + cntMTo L i = N0) := hN0
        clear hN0
        unfold MarkOk at HMARK
        obtain ⟨c0, hc0, hf0⟩ := HST.out.cell HOK.out 0 (by omega)
        have hc0' : wr.cell? ⟨g, i * 8, none⟩ = some c0 := hc0
        have hf0' : wr.frozen? ⟨g, i * 8, none⟩ = false := hf0
        have S1 : Hid _ := HST.out.set HOK.out 0 (by omega) (.int .i64 (N0 : Int))
        clear hc0 hf0
        go_wp2_with fail
        refine (mark_n (N0 + 1) _ (by omega) (by omega) _).mono ?_
        rintro e w2 ⟨rfl, hb⟩
        have S2 : Hid _ := S1.out.below hb
        clear S1 hb hc0' hf0'
        obtain ⟨c0, hc0, hf0⟩ := S2.out.cell HOK.out 1 (by omega)
        have S3 : Hid _ := S2.out.set HOK.out 1 (by omega) (.string (markT (N0 + 1)))
        go_wp2_with fail
        refine (mark_n (N0 + 2) _ (by omega) (by omega) _).mono ?_
        rintro e w3 ⟨rfl, hb⟩
        have S4 : Hid _ := S3.out.below hb
        clear S2 S3 hb hc0 hf0
        obtain ⟨c0, hc0, hf0⟩ := S4.out.cell HOK.out 2 (by omega)
        have S5 : Hid _ := S4.out.set HOK.out 2 (by omega) (.string (markT (N0 + 2)))
        go_wp2_with fail
        refine (mark_n (N0 + 3) _ (by omega) (by omega) _).mono ?_
        rintro e w4 ⟨rfl, hb⟩
        have S6 : Hid _ := S5.out.below hb
        clear S4 S5 hb hc0 hf0
        obtain ⟨c0, hc0, hf0⟩ := S6.out.cell HOK.out 3 (by omega)
        have S7 : Hid _ := S6.out.set HOK.out 3 (by omega) (.string (markT (N0 + 3)))
        obtain ⟨l4, l5, l6⟩ := S7.out.load
        go_wp2_with fail
        refine (mark_ownPz _ _ D _ (N0 + 4) _ FD (by omega) (by omega) (by omega) S7.out.ds).mono ?_
        rintro e w5 ⟨rfl, hd, ho⟩
        have S8 : Hid _ := S7.out.turnD HOK.out ho hd
        clear S6 S7 hd ho hc0 hf0 l4 l5 l6
        obtain ⟨l4, l5, l6⟩ := S8.out.load
        go_wp2_with fail
        refine (mark_ownA _ _ A _ (N0 + 4 + 2 * D.length) FA (by omega) (by omega) S8.out.ats).mono ?_
        rintro e w6 ⟨rfl, hd, ho⟩
        have S9 : Hid _ := S8.out.turnA HOK.out ho hd
        clear S8 hd ho l4 l5 l6
        obtain ⟨l4, l5, l6⟩ := S9.out.load
        go_wp2_with fail
        refine (HMARK.out _ S9.out.kids).mono ?_
        rintro e w7 ⟨rfl, hd, ho⟩
        have S10 : Hid _ := S9.out.turnK HOK.out ho hd
        clear S9 hd ho l4 l5 l6
        go_wp2_with fail
        refine (mark_n (N0 + 4 + 2 * D.length + 4 * A.length + cntMs K) _ rfl (by omega) _).mono ?_
        rintro e w8 ⟨rfl, hb⟩
        have S11 : Hid _ := S10.out.below hb
        clear S10 hb
        obtain ⟨c0, hc0, hf0⟩ := S11.out.cell HOK.out 7 (by omega)
        obtain ⟨c2, hm2⟩ := HFIN.out c _ (S11.out.set HOK.out 7 (by omega) (.string (markT (N0 + 4 + 2 * D.length + 4 * A.length + cntMs K))))
        have HM2 : Hid _ := hm2
        have HST2 : Hid (m + cntMTo L (i + 1) = N0 + 4 + 2 * D.length + 4 * A.length + cntMs K + 1) := by
          have h1 := HSTEP.out
          have h2 := HN0.out
          show _ = _
          omega
        clear S11 hm2 HFIN HMARK HST
        go_wp2
        go_roundw
        case rel => exact ⟨i + 1, c2, by omega, by go_num, (by rw [HST2.out]; congr 1), HM2.out⟩
        case measure => simp [intOf]; omega
      · obtain rfl : i = L.length := by omega
        have HF : Hid (OwnL wr (some ⟨g, 0, none⟩) (mkTs L m) F) := fun _ => ⟨g, c, ty, G, rfl, HROW.out.mem, hmid.out.blk, by rw [mkTs_len]; exact hmid.out.room, HROW.out.sub, HROW.out.not, HROW.out.apart, fun j hj => by
          rw [mkTs_len] at hj
          have := hmid.out.all j hj
          unfold half at this
          rw [if_pos hj] at this
          rw [mkTs_at _ _ _ hj]
          exact this⟩
        go_wp2
        go_ret
        exact ⟨ret_nat (by rw [HCM.out]), HF.out, hmid.out.out⟩
  · have e0 : L = [] := List.length_eq_zero_iff.1 (by omega)
    subst e0
    unfold MarkOk
    refine (mark_empN a cap m w).mono ?_
    rintro e w' ⟨rfl, rfl⟩
    refine ⟨by rw [cntMs]; rfl, fun h => absurd h (by rw [mkTs]; simp), Out.refl _ _⟩
theorem mark_nodes : ∀ n, ∀ (L : List Tree) (a : Option Addr) (cap m : Nat) (F : Bset) (w : World), ksize L < n → nszs L ≤ 1048576 → m + cntMs L ≤ 50000000 → OwnL w a L F → MarkOk L a cap m F w
  | 0, L, a, cap, m, F, w, hn, _, _, _ => by omega
  | n + 1, L, a, cap, m, F, w, hn, hz, hm, hL => mark_nodes_of n (fun L a cap m F w hn hz hm hL => mark_nodes n L a cap m F w hn hz hm hL) L a cap m F w (by omega) hz hm hL
end Go.Proofs.Ytpejcblmglbjfaa.trees
