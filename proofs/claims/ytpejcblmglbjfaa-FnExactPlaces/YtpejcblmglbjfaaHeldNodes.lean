/-
  The laws' marks in trees: found again.
-/
import Derived.Test.YtpejcblmglbjfaaMarkNodes
namespace Go.Proofs.Ytpejcblmglbjfaa.trees
open Go.ChangeShapes Go.WideShapes Go.ChangeAt Go.RowKit
open pairs (Pair at0 PairsAt marksL marks_len)
open marks (markT)
set_option linter.unusedVariables false
set_option maxRecDepth 100000 in
set_option maxHeartbeats 8000000 in
theorem held_rowA (w : World) (g n cap k : Nat) (cur : Array Value) (ty : TypeId) (hn : n ≤ 4000000) (hk : k ≤ 100000000) (hM : AtM w g n k n cur ty) :
    Calls Try.prog 75 #[.slice (some ⟨g, 0, none⟩) n cap, .int .i64 k] w fun e w' => e = .returned (.int .i64 ((k + 4 * n : Nat) : Int)) ∧ Below w.heap.size w w' := by
  have HM : Hid _ := hM
  clear hM
  go_enter Try.func75, Try.ntmps75
  go_wp2
  go_loopw [1, 5] (fun q t wr => ∃ i : Nat, i ≤ n ∧ t = .int .i64 i ∧ q = .int .i64 ((k + 4 * i : Nat) : Int) ∧ Hid (Below w.heap.size w wr)) (fun _ t _ => n - (intOf t).toNat)
  case atStart => exact ⟨0, Nat.zero_le _, rfl, rfl, Below.refl _ _⟩
  case round =>
    obtain ⟨i, hi, rfl, rfl, hbw⟩ := hrel
    by_cases hlt : i < n
    · obtain ⟨a0, a1, a2, a3⟩ := (HM.out.below hbw.out).done i hlt
      have hg := (HM.out.below hbw.out).blk
      obtain ⟨N0, hN0⟩ : ∃ N0, k + 4 * i = N0 := ⟨_, rfl⟩
      have HN0 : Hid (k + 4 * i = N0) := hN0
      rw [hN0] at a0 a1 a2 a3 ⊢
      have hNb : N0 ≤ 200000000 := by omega
      have l0 : ∀ W, Below wr.heap.size wr W → W.cell? ⟨g, i * 4, none⟩ = some (.string (markT N0)) := fun W h => (h.cell (p := ⟨g, i * 4, none⟩) (pairs.lt_heap hg)).trans (by simp [World.cell?, hg, a0])
      have l1 : ∀ W, Below wr.heap.size wr W → W.cell? ⟨g, i * 4 + 1, none⟩ = some (.string (markT (N0 + 1))) := fun W h => (h.cell (p := ⟨g, i * 4 + 1, none⟩) (pairs.lt_heap hg)).trans (by simp [World.cell?, hg, a1])
      have l2 : ∀ W, Below wr.heap.size wr W → W.cell? ⟨g, i * 4 + 2, none⟩ = some (.string (markT (N0 + 2))) := fun W h => (h.cell (p := ⟨g, i * 4 + 2, none⟩) (pairs.lt_heap hg)).trans (by simp [World.cell?, hg, a2])
      have l3 : ∀ W, Below wr.heap.size wr W → W.cell? ⟨g, i * 4 + 3, none⟩ = some (.string (markT (N0 + 3))) := fun W h => (h.cell (p := ⟨g, i * 4 + 3, none⟩) (pairs.lt_heap hg)).trans (by simp [World.cell?, hg, a3])
      have L1 : Hid (∀ W, Below wr.heap.size wr W → _) := l1
      have L2 : Hid (∀ W, Below wr.heap.size wr W → _) := l2
      have L3 : Hid (∀ W, Below wr.heap.size wr W → _) := l3
      have m0 := fun W => mark_n N0 (N0 : Int) rfl (by omega) W
      clear hg a0 a1 a2 a3 hN0 l1 l2 l3
      go_wp2_with fail
      refine quiets.wp_region_below (by kernel_rfl) (by kernel_rfl) ?_
      repeat (go_big_quiet_step ((first | (intro hq; rfl) | (intro hq; simp [go_sem, l0 _ hq]; rfl) | (intro hq; simp [go_sem]; try rfl) | (intro hq; exact quiets.below_call (m0 _) hq))))
      refine wpQuiet_nil ?_
      intro w2 hb2
      have HB2 : Hid (Below wr.heap.size wr w2) := hb2
      have l1 : ∀ W, Below w2.heap.size w2 W → W.cell? ⟨g, i * 4 + 1, none⟩ = some (.string (markT (N0 + 1))) := fun W h => L1.out W (HB2.out.trans (h.mono HB2.out.size))
      have m1 := fun W => mark_n (N0 + 1) ((N0 : Int) + 1) (by omega) (by omega) W
      clear hb2 l0 m0
      go_wp2_with fail
      refine quiets.wp_region_below (by kernel_rfl) (by kernel_rfl) ?_
      repeat (go_big_quiet_step ((first | (intro hq; rfl) | (intro hq; simp [go_sem, l1 _ hq]; rfl) | (intro hq; simp [go_sem]; try rfl) | (intro hq; exact quiets.below_call (m1 _) hq))))
      refine wpQuiet_nil ?_
      intro w3 hb3
      have HB3 : Hid (Below wr.heap.size wr w3) := HB2.out.trans (hb3.mono HB2.out.size)
      have l2 : ∀ W, Below w3.heap.size w3 W → W.cell? ⟨g, i * 4 + 2, none⟩ = some (.string (markT (N0 + 2))) := fun W h => L2.out W (HB3.out.trans (h.mono HB3.out.size))
      have m2 := fun W => mark_n (N0 + 2) ((N0 : Int) + 1 + 1) (by omega) (by omega) W
      clear hb3 l1 m1
      go_wp2_with fail
      refine quiets.wp_region_below (by kernel_rfl) (by kernel_rfl) ?_
      repeat (go_big_quiet_step ((first | (intro hq; rfl) | (intro hq; simp [go_sem, l2 _ hq]; rfl) | (intro hq; simp [go_sem]; try rfl) | (intro hq; exact quiets.below_call (m2 _) hq))))
      refine wpQuiet_nil ?_
      intro w4 hb4
      have HB4 : Hid (Below wr.heap.size wr w4) := HB3.out.trans (hb4.mono HB3.out.size)
      have l3 : ∀ W, Below w4.heap.size w4 W → W.cell? ⟨g, i * 4 + 3, none⟩ = some (.string (markT (N0 + 3))) := fun W h => L3.out W (HB4.out.trans (h.mono HB4.out.size))
      have m3 := fun W => mark_n (N0 + 3) ((N0 : Int) + 1 + 1 + 1) (by omega) (by omega) W
      clear hb4 l2 m2
      go_wp2_with fail
      refine quiets.wp_region_below (by kernel_rfl) (by kernel_rfl) ?_
      repeat (go_big_quiet_step ((first | (intro hq; rfl) | (intro hq; simp [go_sem, l3 _ hq]; rfl) | (intro hq; simp [go_sem]; try rfl) | (intro hq; exact quiets.below_call (m3 _) hq))))
      refine wpQuiet_nil ?_
      intro w5 hb5
      have HB5 : Hid (Below w.heap.size w w5) := hbw.out.trans ((HB4.out.trans (hb5.mono HB4.out.size)).mono hbw.out.size)
      have HST : Hid (k + 4 * (i + 1) = N0 + 4) := by have := HN0.out; show _ = _; omega
      clear hb5 l3 m3
      go_wp2
      go_roundw
      case rel => exact ⟨i + 1, by omega, by go_num, (by rw [HST.out]; congr 1), HB5.out⟩
      case measure => simp [intOf]; omega
    · obtain rfl : i = n := by omega
      go_wp2
      go_ret
      exact ⟨rfl, hbw.out⟩
set_option maxRecDepth 100000 in
theorem held_empA (a : Option Addr) (cap k : Nat) (w : World) : Calls Try.prog 75 #[.slice a 0 cap, .int .i64 k] w fun e w' => e = .returned (.int .i64 k) ∧ Below w.heap.size w w' := by
  go_enter Try.func75, Try.ntmps75
  go_wp2
  go_loop [1, 5] (fun q t => q = .int .i64 (k : Int) ∧ t = .int .i64 0) (fun _ _ => 0)
  case atStart => exact ⟨rfl, rfl⟩
  case round =>
    obtain ⟨rfl, rfl⟩ := hrel
    go_wp2
    go_ret
    exact ⟨rfl, Below.refl _ _⟩
theorem held_ownA (w : World) (a : Option Addr) (n cap k : Nat) (F : Bset) (hn : n ≤ 4000000) (hk : k ≤ 100000000) (hL : OwnA w a (marksA k n) F) :
    Calls Try.prog 75 #[.slice a n cap, .int .i64 k] w fun e w' => e = .returned (.int .i64 ((k + 4 * n : Nat) : Int)) ∧ Below w.heap.size w w' := by
  by_cases h0 : 0 < n
  · obtain ⟨g, rfl, hg, cur, ty, h1, h2, h3⟩ := hL (by rw [marksA_len]; exact h0)
    rw [marksA_len] at h2 h3
    exact held_rowA w g n cap k cur ty hn hk ⟨h1, h2, fun j hj => by have := h3 j hj; rw [marksA_at _ _ _ hj] at this; exact this⟩
  · obtain rfl : n = 0 := by omega
    exact held_empA a cap k w
set_option maxRecDepth 100000 in
theorem held_empP (a : Option Addr) (cap k : Nat) (w : World) : Calls Try.prog 74 #[.slice a 0 cap, .int .i64 k] w fun e w' => e = .returned (.int .i64 k) ∧ Below w.heap.size w w' := by
  go_enter Try.func74, Try.ntmps74
  go_wp2
  go_loop [1, 5] (fun q t => q = .int .i64 (k : Int) ∧ t = .int .i64 0) (fun _ _ => 0)
  case atStart => exact ⟨rfl, rfl⟩
  case round =>
    obtain ⟨rfl, rfl⟩ := hrel
    go_wp2
    go_ret
    exact ⟨rfl, Below.refl _ _⟩
theorem held_ownP (w : World) (a : Option Addr) (n cap k : Nat) (z : Int) (F : Bset) (hz : z = k) (hn : n ≤ 4000000) (hk : k ≤ 100000000) (hL : OwnP w a (marksL k n) F) :
    Calls Try.prog 74 #[.slice a n cap, .int .i64 z] w fun e w' => e = .returned (.int .i64 ((k + 2 * n : Nat) : Int)) ∧ Below w.heap.size w w' := by
  subst hz
  by_cases h0 : 0 < n
  · obtain ⟨g, rfl, hg, hm⟩ := hL (by rw [marks_len]; exact h0)
    rw [marks_len] at hm
    exact pairs.held_DeclS w g n cap k hn hk hm
  · obtain rfl : n = 0 := by omega
    exact held_empP a cap k w
theorem mkT_kind (t : Tree) (m : Nat) : (mkT t m).kind = m := by cases t; rw [mkT]; rfl
set_option maxRecDepth 100000 in
theorem held_empN (a : Option Addr) (cap k : Nat) (w : World) : Calls Try.prog 76 #[.slice a 0 cap, .int .i64 k] w fun e w' => e = .returned (.int .i64 k) ∧ Below w.heap.size w w' := by
  go_enter Try.func76, Try.ntmps76
  go_wp2
  go_loop [1, 5] (fun q t => q = .int .i64 (k : Int) ∧ t = .int .i64 0) (fun _ _ => 0)
  case atStart => exact ⟨rfl, rfl⟩
  case round =>
    obtain ⟨rfl, rfl⟩ := hrel
    go_wp2
    go_ret
    exact ⟨rfl, Below.refl _ _⟩
def HeldOk (L : List Tree) (a : Option Addr) (cap m : Nat) (w : World) : Prop :=
  Calls Try.prog 76 #[.slice a L.length cap, .int .i64 m] w fun e w' => e = .returned (.int .i64 ((m + cntMs L : Nat) : Int)) ∧ Below w.heap.size w w'
set_option maxRecDepth 100000 in
set_option maxHeartbeats 8000000 in
theorem held_nodes_of (n : Nat) (ih : ∀ (L : List Tree) (a : Option Addr) (cap m : Nat) (F : Bset) (w : World), ksize L < n → nszs L ≤ 1048576 → m + cntMs L ≤ 50000000 → OwnL w a (mkTs L m) F → HeldOk L a cap m w)
    (L : List Tree) (a : Option Addr) (cap m : Nat) (F : Bset) (w : World) (hn : ksize L ≤ n) (hz : nszs L ≤ 1048576) (hm : m + cntMs L ≤ 50000000) (hL : OwnL w a (mkTs L m) F) : HeldOk L a cap m w := by
  by_cases h0 : 0 < L.length
  · obtain ⟨g, cur, ty, G, rfl, hrow⟩ := hL (by rw [mkTs_len]; exact h0)
    have HROW : Hid _ := hrow
    have HIH : Hid _ := ih
    have HN : Hid _ := hn
    have HZ : Hid _ := hz
    have HM : Hid _ := hm
    have hlz : L.length ≤ 1048576 := by have := nszs_eq L; omega
    have HCM : Hid (cntMs L = cntMTo L L.length) := cntMs_eq L
    unfold HeldOk
    clear hL hrow ih hn hz hm
    go_enter Try.func76, Try.ntmps76
    go_wp2
    go_loopw [1, 5] (fun q t wr => ∃ i : Nat, i ≤ L.length ∧ t = .int .i64 i ∧ q = .int .i64 ((m + cntMTo L i : Nat) : Int) ∧ Hid (Below w.heap.size w wr)) (fun _ t _ => L.length - (intOf t).toNat)
    case atStart => exact ⟨0, Nat.zero_le _, rfl, rfl, Below.refl _ _⟩
    case round =>
      obtain ⟨i, hi, rfl, rfl, hbw⟩ := hrel
      by_cases hlt : i < L.length
      · obtain ⟨h, hown0, hcells⟩ := HROW.out.kids i (by rw [mkTs_len]; exact hlt)
        rw [mkTs_at _ _ _ hlt] at hown0 hcells
        have hown := hown0.below hbw.out
        have hblk := (hbw.out.block _ (pairs.lt_heap HROW.out.blk)).trans HROW.out.blk
        obtain ⟨FD, FA, FK, hp⟩ := hown.parts
        rw [mkT_vals] at hcells
        have hds := hp.ds
        have hats := hp.ats
        have hkids := hp.kids
        rw [mkT_ds] at hds
        rw [mkT_ats] at hats
        rw [mkT_kids] at hkids
        have hzk := nsz_kid L i hlt
        have hnl := nsz_lens (kid L i)
        have hcm := cntM_eq (kid L i)
        have hmo := cntMTo_mono L (show i + 1 ≤ L.length by omega)
        have hst1 : cntMTo L (i + 1) = cntMTo L i + cntM (kid L i) := rfl
        have hHZ := HZ.out
        have hHM := HM.out
        have hHC := HCM.out
        have hksz : ksize (kid L i).kids < n := by
          have h1 := ksize_kid L i hlt
          have h2 := HN.out
          have h3 : ksize (kid L i).kids < tsize (kid L i) := by cases kid L i; rw [tsize]; show ksize _ < _; simp only [Tree.kids]; omega
          omega
        have HHELD : Hid (∀ W, OwnL W h.ka (mkTs (kid L i).kids (m + cntMTo L i + 4 + 2 * (kid L i).ds.length + 4 * (kid L i).ats.length)) FK → HeldOk (kid L i).kids h.ka h.kc (m + cntMTo L i + 4 + 2 * (kid L i).ds.length + 4 * (kid L i).ats.length) W) := fun W hW => HIH.out _ _ _ _ _ W hksz (by omega) (by omega) hW
        have HSTEP : Hid (cntMTo L (i + 1) = cntMTo L i + cntM (kid L i)) := hst1
        rw [hcm] at HSTEP
        have hb1 : (kid L i).ds.length ≤ 1048576 := by omega
        have hb2 : (kid L i).ats.length ≤ 1048576 := by omega
        have hb3 : (kid L i).kids.length ≤ 1048576 := by omega
        have hb4 : m + cntMTo L i + 4 + 2 * (kid L i).ds.length + 4 * (kid L i).ats.length + cntMs (kid L i).kids ≤ 50000000 := by omega
        have e : ∀ j v, j < 8 → (#[Value.int .i64 ((m + cntMTo L i : Nat) : Int), .string (markT (m + cntMTo L i + 1)), .string (markT (m + cntMTo L i + 2)), .string (markT (m + cntMTo L i + 3)), .slice h.da (kid L i).ds.length h.dc, .slice h.aa (kid L i).ats.length h.ac, .slice h.ka (kid L i).kids.length h.kc, .string (markT (m + cntMTo L i + 4 + 2 * (kid L i).ds.length + 4 * (kid L i).ats.length + cntMs (kid L i).kids))] : Array Value)[j]? = some v → ∀ W, Below wr.heap.size wr W → W.cell? ⟨g, i * 8 + j, none⟩ = some v := fun j v hj hv W hW => (hW.cell (p := ⟨g, i * 8 + j, none⟩) (pairs.lt_heap hblk)).trans ((show wr.cell? ⟨g, i * 8 + j, none⟩ = cur[i * 8 + j]? by simp [World.cell?, hblk]).trans ((hcells j hj).trans hv))
        have l0 : ∀ W, Below wr.heap.size wr W → W.cell? ⟨g, i * 8, none⟩ = some (.int .i64 ((m + cntMTo L i : Nat) : Int)) := e 0 _ (by omega) rfl
        have L1 : Hid (∀ W, Below wr.heap.size wr W → W.cell? ⟨g, i * 8 + 1, none⟩ = some (.string (markT (m + cntMTo L i + 1)))) := e 1 _ (by omega) rfl
        have L2 : Hid (∀ W, Below wr.heap.size wr W → W.cell? ⟨g, i * 8 + 2, none⟩ = some (.string (markT (m + cntMTo L i + 2)))) := e 2 _ (by omega) rfl
        have L3 : Hid (∀ W, Below wr.heap.size wr W → W.cell? ⟨g, i * 8 + 3, none⟩ = some (.string (markT (m + cntMTo L i + 3)))) := e 3 _ (by omega) rfl
        have L4 : Hid (∀ W, Below wr.heap.size wr W → W.cell? ⟨g, i * 8 + 4, none⟩ = some (.slice h.da (kid L i).ds.length h.dc)) := e 4 _ (by omega) rfl
        have L5 : Hid (∀ W, Below wr.heap.size wr W → W.cell? ⟨g, i * 8 + 5, none⟩ = some (.slice h.aa (kid L i).ats.length h.ac)) := e 5 _ (by omega) rfl
        have L6 : Hid (∀ W, Below wr.heap.size wr W → W.cell? ⟨g, i * 8 + 6, none⟩ = some (.slice h.ka (kid L i).kids.length h.kc)) := e 6 _ (by omega) rfl
        have L7 : Hid (∀ W, Below wr.heap.size wr W → W.cell? ⟨g, i * 8 + 7, none⟩ = some (.string (markT (m + cntMTo L i + 4 + 2 * (kid L i).ds.length + 4 * (kid L i).ats.length + cntMs (kid L i).kids)))) := e 7 _ (by omega) rfl
        have HDS : Hid _ := hds
        have HAS : Hid _ := hats
        have HKS : Hid _ := hkids
        clear e hown hown0 hcells hp hblk hds hats hkids hzk hnl hcm hmo hst1 hHZ hHM hHC hksz
        generalize (kid L i).ds.length = D at *
        generalize (kid L i).ats.length = A at *
        generalize (kid L i).kids = K at *
        generalize hN0 : m + cntMTo L i = N0 at *
        have HN0 : Hid (m + cntMTo L i = N0) := hN0
        clear hN0
        unfold HeldOk at HHELD
        have c0 := l0 wr (Below.refl _ _)
        clear l0
        have l1 := L1.out
        have m1 := fun W => mark_n (N0 + 1) ((N0 : Int) + 1) (by omega) (by omega) W
        go_wp2_with fail
        refine quiets.wp_region_below (by kernel_rfl) (by kernel_rfl) ?_
        repeat (go_big_quiet_step ((first | (intro hq; rfl) | (intro hq; simp [go_sem, l1 _ hq]; rfl) | (intro hq; simp [go_sem]; try rfl) | (intro hq; exact quiets.below_call (m1 _) hq))))
        refine wpQuiet_nil ?_
        intro w2 hb
        have HB2 : Hid (Below wr.heap.size wr w2) := hb
        have l2 : ∀ W, Below w2.heap.size w2 W → W.cell? ⟨g, i * 8 + 2, none⟩ = some (.string (markT (N0 + 2))) := fun W h => L2.out W (HB2.out.trans (h.mono HB2.out.size))
        have m2 := fun W => mark_n (N0 + 2) ((N0 : Int) + 1 + 1) (by omega) (by omega) W
        clear hb l1 m1 c0
        go_wp2_with fail
        refine quiets.wp_region_below (by kernel_rfl) (by kernel_rfl) ?_
        repeat (go_big_quiet_step ((first | (intro hq; rfl) | (intro hq; simp [go_sem, l2 _ hq]; rfl) | (intro hq; simp [go_sem]; try rfl) | (intro hq; exact quiets.below_call (m2 _) hq))))
        refine wpQuiet_nil ?_
        intro w3 hb
        have HB3 : Hid (Below wr.heap.size wr w3) := HB2.out.trans (hb.mono HB2.out.size)
        have l3 : ∀ W, Below w3.heap.size w3 W → W.cell? ⟨g, i * 8 + 3, none⟩ = some (.string (markT (N0 + 3))) := fun W h => L3.out W (HB3.out.trans (h.mono HB3.out.size))
        have m3 := fun W => mark_n (N0 + 3) ((N0 : Int) + 1 + 1 + 1) (by omega) (by omega) W
        clear hb l2 m2
        go_wp2_with fail
        refine quiets.wp_region_below (by kernel_rfl) (by kernel_rfl) ?_
        repeat (go_big_quiet_step ((first | (intro hq; rfl) | (intro hq; simp [go_sem, l3 _ hq]; rfl) | (intro hq; simp [go_sem]; try rfl) | (intro hq; exact quiets.below_call (m3 _) hq))))
        refine wpQuiet_nil ?_
        intro w4 hb
        have HB4 : Hid (Below wr.heap.size wr w4) := HB3.out.trans (hb.mono HB3.out.size)
        have c4 := L4.out w4 HB4.out
        clear hb l3 m3
        go_wp2_with fail
        refine (held_ownP _ _ D _ (N0 + 4) _ FD (by omega) (by omega) (by omega) (OwnP.out HDS.out (G := fun _ => False) (Out.of_below HB4.out) (none_apart _))).mono ?_
        rintro e w5 ⟨rfl, hb⟩
        have HB5 : Hid (Below wr.heap.size wr w5) := HB4.out.trans (hb.mono HB4.out.size)
        have c5 := L5.out w5 HB5.out
        clear hb c4
        go_wp2_with fail
        refine (held_ownA _ _ A _ (N0 + 4 + 2 * D) FA (by omega) (by omega) (OwnA.out HAS.out (G := fun _ => False) (Out.of_below HB5.out) (none_apart _))).mono ?_
        rintro e w6 ⟨rfl, hb⟩
        have HB6 : Hid (Below wr.heap.size wr w6) := HB5.out.trans (hb.mono HB5.out.size)
        have c6 := L6.out w6 HB6.out
        clear hb c5
        go_wp2_with fail
        refine (HHELD.out _ (OwnL.below HKS.out HB6.out)).mono ?_
        rintro e w7 ⟨rfl, hb⟩
        have HB7 : Hid (Below wr.heap.size wr w7) := HB6.out.trans (hb.mono HB6.out.size)
        have l7 : ∀ W, Below w7.heap.size w7 W → W.cell? ⟨g, i * 8 + 7, none⟩ = some (.string (markT (N0 + 4 + 2 * D + 4 * A + cntMs K))) := fun W h => L7.out W (HB7.out.trans (h.mono HB7.out.size))
        have m7 := fun W => mark_n (N0 + 4 + 2 * D + 4 * A + cntMs K) ((N0 + 4 + 2 * D + 4 * A + cntMs K : Nat) : Int) rfl (by omega) W
        clear hb c6
        go_wp2_with fail
        refine quiets.wp_region_below (by kernel_rfl) (by kernel_rfl) ?_
        repeat (go_big_quiet_step ((first | (intro hq; rfl) | (intro hq; simp [go_sem, l7 _ hq]; rfl) | (intro hq; simp [go_sem]; try rfl) | (intro hq; exact quiets.below_call (m7 _) hq))))
        refine wpQuiet_nil ?_
        intro w8 hb
        have HB8 : Hid (Below w.heap.size w w8) := hbw.out.trans ((HB7.out.trans (hb.mono HB7.out.size)).mono hbw.out.size)
        have HST2 : Hid (m + cntMTo L (i + 1) = N0 + 4 + 2 * D + 4 * A + cntMs K + 1) := by
          have h1 := HSTEP.out
          have h2 := HN0.out
          show _ = _
          omega
        clear hb l7 m7
        go_wp2
        go_roundw
        case rel => exact ⟨i + 1, by omega, by go_num, (by rw [HST2.out]; congr 1), HB8.out⟩
        case measure => simp [intOf]; omega
      · obtain rfl : i = L.length := by omega
        go_wp2
        go_ret
        exact ⟨ret_nat (by rw [HCM.out]), hbw.out⟩
  · have e0 : L = [] := List.length_eq_zero_iff.1 (by omega)
    subst e0
    unfold HeldOk
    refine (held_empN a cap m w).mono ?_
    rintro e w' ⟨rfl, hb⟩
    exact ⟨by rw [cntMs]; rfl, hb⟩
theorem held_nodes : ∀ n, ∀ (L : List Tree) (a : Option Addr) (cap m : Nat) (F : Bset) (w : World), ksize L < n → nszs L ≤ 1048576 → m + cntMs L ≤ 50000000 → OwnL w a (mkTs L m) F → HeldOk L a cap m w
  | 0, L, a, cap, m, F, w, hn, _, _, _ => by omega
  | n + 1, L, a, cap, m, F, w, hn, hz, hm, hL => held_nodes_of n (fun L a cap m F w hn hz hm hL => held_nodes n L a cap m F w hn hz hm hL) L a cap m F w (by omega) hz hm hL
end Go.Proofs.Ytpejcblmglbjfaa.trees
