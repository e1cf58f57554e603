/-
  What the specification's l10Turn answers, below a Kid.
-/
import Derived.Test.YtpejcblmglbjfaaSpecTurn
namespace Go.Proofs.Ytpejcblmglbjfaa.paths
open Go.ChangeShapes Go.WideShapes Go.ChangeAt Go.RowKit
open trees (Tree Hdr vals noTree kid nsz nszs tsize ksize NodeIn NodesAt OwnN OwnL Rng Out T3 box8 box_froz TH th0 cellsN trees1 mergeL MergeOk set8)
open ints (IntsAt int0 okI)
set_option linter.unusedVariables false
theorem own_same {w w' : World} {B : Nat} {e : TypeId} {size n : Nat} {v : Value} {xs : List Value} (h : w.ownsRow B e size v n xs) (hk : ∀ g, v.ownBlock = some g → w'.heap[g]? = w.heap[g]?) : w'.ownsRow B e size v n xs := by
  refine ⟨h.1, ?_⟩
  rcases h.2 with h1 | ⟨g, cap, cur, hv, h0, h1, h2, h3, h4, h5⟩
  · exact .inl h1
  · exact .inr ⟨g, cap, cur, hv, h0, (hk g (by rw [hv]; rfl)).trans h1, h2, h3, h4, h5⟩
theorem th_set (K : List TH) (n i : Nat) (x : TH) (hn : n < K.length) : th0 (K.set n x) i = if i = n then x else th0 K i := by
  unfold th0
  rw [List.getD_eq_getElem?_getD, List.getD_eq_getElem?_getD, List.getElem?_set]
  by_cases e : n = i
  · subst e
    rw [if_pos rfl, if_pos hn, if_pos rfl]
    rfl
  · rw [if_neg e, if_neg (fun h => e h.symm)]
theorem trees1_set (K : List TH) (n : Nat) (x : TH) : trees1 (K.set n x) = (trees1 K).set n x.1 := by unfold trees1; rw [List.map_set]
theorem block8 {w : World} {g n : Nat} {cur : Array Value} {t : TypeId} (h : w.heap[g]? = some (.cells cur t (0, 0))) (u0 u1 u2 u3 u4 u5 u6 u7 : Value) : ((((((((w.setCell ⟨g, n * 8, none⟩ u0).setCell ⟨g, n * 8 + 1, none⟩ u1).setCell ⟨g, n * 8 + 2, none⟩ u2).setCell ⟨g, n * 8 + 3, none⟩ u3).setCell ⟨g, n * 8 + 4, none⟩ u4).setCell ⟨g, n * 8 + 5, none⟩ u5).setCell ⟨g, n * 8 + 6, none⟩ u6).setCell ⟨g, n * 8 + 7, none⟩ u7).heap[g]? = some (.cells (set8 cur n u0 u1 u2 u3 u4 u5 u6 u7) t (0, 0)) :=
  pairs.block_set _ (pairs.block_set _ (pairs.block_set _ (pairs.block_set _ (pairs.block_set _ (pairs.block_set _ (pairs.block_set _ (pairs.block_set _ h)))))))
theorem out_row {F : trees.Bset} {w w' : World} {g : Nat} (n : Nat) (h : Out F w w') (hg : F g) (u0 u1 u2 u3 u4 u5 u6 u7 : Value) : Out F w ((((((((w'.setCell ⟨g, n * 8, none⟩ u0).setCell ⟨g, n * 8 + 1, none⟩ u1).setCell ⟨g, n * 8 + 2, none⟩ u2).setCell ⟨g, n * 8 + 3, none⟩ u3).setCell ⟨g, n * 8 + 4, none⟩ u4).setCell ⟨g, n * 8 + 5, none⟩ u5).setCell ⟨g, n * 8 + 6, none⟩ u6).setCell ⟨g, n * 8 + 7, none⟩ u7) :=
  (((((((h.set hg _ u0).set hg _ u1).set hg _ u2).set hg _ u3).set hg _ u4).set hg _ u5).set hg _ u6).set hg _ u7
/-- A row whose node number n is another one. -/
theorem row_turned {w : World} {g n : Nat} {cur : Array Value} {ty : TypeId} {K : List TH} {x : TH} {u0 u1 u2 u3 u4 u5 u6 u7 : Value} (hs : K.length * 8 ≤ cur.size) (hc : ∀ j, j < K.length * 8 → cur[j]? = (cellsN K)[j]?) (hn : n < K.length) (hw : w.heap[g]? = some (.cells (set8 cur n u0 u1 u2 u3 u4 u5 u6 u7) ty (0, 0))) (hv : vals x.1 x.2 = #[u0, u1, u2, u3, u4, u5, u6, u7]) :
    ∀ i, i < K.length → ∀ j, j < 8 → w.cell? ⟨g, 0 + i * 8 + j, none⟩ = (vals (th0 (K.set n x) i).1 (th0 (K.set n x) i).2)[j]? := by
  intro i hi j hj
  rw [th_set K n i x hn, Nat.zero_add, show w.cell? ⟨g, i * 8 + j, none⟩ = (set8 cur n u0 u1 u2 u3 u4 u5 u6 u7)[i * 8 + j]? by simp [World.cell?, hw]]
  by_cases e : i = n
  · subst e
    rw [if_pos rfl, hv]
    exact trees.set8_in cur i u0 u1 u2 u3 u4 u5 u6 u7 (by omega) j hj
  · rw [if_neg e, trees.set8_out cur n i u0 u1 u2 u3 u4 u5 u6 u7 e j hj, hc (i * 8 + j) (by omega)]
    exact trees.cellsN_at K i j hi hj
theorem row_cells {w : World} {g n : Nat} {cur : Array Value} {ty : TypeId} (h : w.heap[g]? = some (.cells cur ty (0, 0))) (hn : n * 8 + 7 < cur.size) : ∃ e0 e1 e2 e3 e4 e5 e6 e7, (w.cell? ⟨g, n * 8, none⟩ = some e0 ∧ w.cell? ⟨g, n * 8 + 1, none⟩ = some e1 ∧ w.cell? ⟨g, n * 8 + 2, none⟩ = some e2 ∧ w.cell? ⟨g, n * 8 + 3, none⟩ = some e3 ∧ w.cell? ⟨g, n * 8 + 4, none⟩ = some e4 ∧ w.cell? ⟨g, n * 8 + 5, none⟩ = some e5 ∧ w.cell? ⟨g, n * 8 + 6, none⟩ = some e6 ∧ w.cell? ⟨g, n * 8 + 7, none⟩ = some e7) ∧
    w.frozen? ⟨g, n * 8, none⟩ = false ∧ w.frozen? ⟨g, n * 8 + 1, none⟩ = false ∧ w.frozen? ⟨g, n * 8 + 2, none⟩ = false ∧ w.frozen? ⟨g, n * 8 + 3, none⟩ = false ∧ w.frozen? ⟨g, n * 8 + 4, none⟩ = false ∧ w.frozen? ⟨g, n * 8 + 5, none⟩ = false ∧ w.frozen? ⟨g, n * 8 + 6, none⟩ = false ∧ w.frozen? ⟨g, n * 8 + 7, none⟩ = false := by
  obtain ⟨a0, b0⟩ := pairs.blk_cell (i := n * 8) h (by omega)
  obtain ⟨a1, b1⟩ := pairs.blk_cell (i := n * 8 + 1) h (by omega)
  obtain ⟨a2, b2⟩ := pairs.blk_cell (i := n * 8 + 2) h (by omega)
  obtain ⟨a3, b3⟩ := pairs.blk_cell (i := n * 8 + 3) h (by omega)
  obtain ⟨a4, b4⟩ := pairs.blk_cell (i := n * 8 + 4) h (by omega)
  obtain ⟨a5, b5⟩ := pairs.blk_cell (i := n * 8 + 5) h (by omega)
  obtain ⟨a6, b6⟩ := pairs.blk_cell (i := n * 8 + 6) h (by omega)
  obtain ⟨a7, b7⟩ := pairs.blk_cell (i := n * 8 + 7) h (by omega)
  exact ⟨_, _, _, _, _, _, _, _, ⟨a0, a1, a2, a3, a4, a5, a6, a7⟩, b0, b1, b2, b3, b4, b5, b6, b7⟩
theorem T3.out_of {w W W' : World} {P O : Array Value} {g : Nat} (h : T3 w W P O) (ho : Out (fun k => k = g) W W') (hg : w.heap.size + 3 ≤ g) : T3 w W' P O :=
  ⟨(ho.block _ (pairs.lt_heap h.par) (fun e => by omega)).trans h.par, (ho.block _ (pairs.lt_heap h.res) (fun e => by omega)).trans h.res, (ho.block _ (pairs.lt_heap h.out) (fun e => by omega)).trans h.out, ho.below h.bel (fun b e => by subst e; omega) h.bel.size⟩
set_option maxRecDepth 100000 in
set_option maxHeartbeats 16000000 in
theorem turn_step (i : Int) (p : List Int) (ih : ∀ (t : Tree) (h : Hdr) (a : Option Addr) (cap f g : Nat) (L : List Tree) (b : Option Addr) (cl : Nat) (w0 w : World) (x : Tree), Below w0.heap.size w0 w → nsz t + nszs L ≤ 1048576 → f ≤ g → g ≤ x.kids.length → atT t p = some x → p.length ≤ cap → IntsAt w0 a p → NodeIn w0 0 t h → NodesAt w0 0 b L → TurnOk t h p a cap f g L b cl w0 w)
    (t : Tree) (h : Hdr) (a : Option Addr) (cap f g : Nat) (L : List Tree) (b : Option Addr) (cl : Nat) (w0 w : World) (x : Tree) (hb0 : Below w0.heap.size w0 w) (hz : nsz t + nszs L ≤ 1048576) (hfg : f ≤ g) (hg : g ≤ x.kids.length) (hat : atT t (i :: p) = some x) (hcap : (i :: p).length ≤ cap) (hP : IntsAt w0 a (i :: p)) (hn : NodeIn w0 0 t h) (hL : NodesAt w0 0 b L) : TurnOk t h (i :: p) a cap f g L b cl w0 w := by
  unfold TurnOk
  have HT0 : Hid (T3 w _ (vals t h) (vals t h)) := T3.new w _ _
  have HN : Hid (NodeIn w0 0 t h) := hn
  have HB0 : Hid (Below w0.heap.size w0 w) := hb0
  have hst : ∃ y, stepT t i = some y ∧ atT y p = some x := by
    unfold atT at hat
    cases hs : stepT t i with
    | none => rw [hs] at hat; cases hat
    | some y => rw [hs] at hat; exact ⟨y, rfl, hat⟩
  obtain ⟨y, hs, haty⟩ := hst
  obtain ⟨hi, rfl⟩ := step_some hs
  obtain ⟨n, rfl⟩ : ∃ n : Nat, i = n := ⟨i.toNat, by omega⟩
  rw [Int.toNat_natCast] at haty
  obtain ⟨K, hK1, hK2⟩ := src_of (trees.kids_at hn)
  have hroom := hn.room
  have HKL : Hid (K.length = t.kids.length) := by show _ = _; rw [← hK1, trees.trees1_len]
  have HK : Hid (trees1 K = t.kids ∧ NSrc w0 0 h.ka K) := ⟨hK1, hK2⟩
  have HZ : Hid (nsz t + nszs L ≤ 1048576) := hz
  have hkl : t.kids.length ≤ 1048576 := by have := trees.nszs_eq t.kids; have := kids_nsz t; omega
  have hin : n < t.kids.length := by omega
  obtain ⟨pb, poff, rfl, hplt, hp0⟩ := ints_first hP
  obtain ⟨pt, hpt⟩ : ∃ pt, (if cap = 1 then some (⟨pb, poff, none⟩ : Addr) else some (⟨pb, poff + 1, none⟩ : Addr)) = pt := ⟨_, rfl⟩
  have HPR : Hid (IntsAt w0 pt p) := by have h1 := ints_rest hP hcap; rw [show Option.map (fun x : Addr => x.add 1) (some (⟨pb, poff, none⟩ : Addr)) = some ⟨pb, poff + 1, none⟩ by show some ((⟨pb, poff, none⟩ : Addr).add 1) = _; rw [Addr.add_lit], hpt] at h1; exact h1
  have HPT : Hid _ := hpt
  have HPC : Hid (∀ W, Below w0.heap.size w0 W → W.cell? ⟨pb, poff, none⟩ = some (.int .i64 (n : Int))) := fun W hb => (hb.cell (p := ⟨pb, poff, none⟩) hplt).trans hp0
  have hpl : p.length + 1 ≤ cap := by rw [List.length_cons] at hcap; exact hcap
  have hpl2 : p.length + 1 ≤ 9223372036854775807 := by have := hP.short; rw [List.length_cons] at this; unfold maxLen at this; omega
  have HY : Hid (nsz (kid t.kids n) + nszs L ≤ 1048576) := by
    have h1 := trees.nsz_kid t.kids n hin
    have h2 := kids_nsz t
    show _ ≤ _
    omega
  have HIH : Hid (∀ (hd : Hdr) (c : Nat) (W : World), Below w0.heap.size w0 W → p.length ≤ c → NodeIn w0 0 (kid t.kids n) hd → TurnOk (kid t.kids n) hd p pt c f g L b cl w0 W) := fun hd c W hb h1 h3 => ih _ hd pt c f g L b cl w0 W x hb HY.out hfg hg haty h1 HPR.out h3 hL
  clear hL hK1 hK2 hz ih hP hat hs haty hcap hg hfg hpt hplt hp0 hb0
  obtain ⟨A, hA⟩ : ∃ A : World → Ending → Prop, A = fun w' e => ∃ h', e = .returned (.agg (vals (putT t ((n : Int) :: p) f g L) h')) ∧ ∀ w'', Out (fun b => w0.heap.size ≤ b ∧ b < w.heap.size) w' w'' → NodeIn w'' 0 (putT t ((n : Int) :: p) f g L) h' := ⟨_, rfl⟩
  have HA : Hid (A = _) := hA
  show Calls _ _ _ _ fun e w' => (fun w' e => ∃ h', e = .returned (.agg (vals (putT t ((n : Int) :: p) f g L) h')) ∧ ∀ w'', Out (fun b => w0.heap.size ≤ b ∧ b < w.heap.size) w' w'' → NodeIn w'' 0 (putT t ((n : Int) :: p) f g L) h') w' e ∧ Below w.heap.size w w'
  rw [← hA]
  clear hA
  obtain ⟨k0, p0, l0, u0, x0, ds0, ats0, ks0⟩ := t
  obtain ⟨rb, ro, kd, kp, kl, ku, kx, kds, kats, kks, kda, kdc, kaa, kac, kka, kkc, hra, hkid, hknode, hkcells⟩ := kid_cells hn hin
  have hka : h.ka = some ⟨rb, ro, none⟩ := hra
  obtain ⟨da0, dc0, aa0, ac0, ka0, kc0⟩ := h
  simp only [vals, Tree.kind, Tree.pre, Tree.loc, Tree.uri, Tree.text, Tree.ds, Tree.ats, Tree.kids, List.length_cons] at HT0 HKL HK hroom hkl hin hi HY HIH hka ⊢
  subst hka
  rw [hkid] at HIH
  have HIH2 : Hid (∀ (c : Nat) (W : World), Below w0.heap.size w0 W → p.length ≤ c → TurnOk (.mk kd kp kl ku kx kds kats kks) ⟨kda, kdc, kaa, kac, kka, kkc⟩ p pt c f g L b cl w0 W) := fun c W hb h1 => HIH.out _ c W hb h1 hknode
  have HKC : Hid _ := hkcells
  have HKID : Hid _ := hkid
  clear hra hkcells hknode HIH hkid hn
  obtain ⟨W3, hW3⟩ : ∃ W3, ((w.alloc (.cells #[.int .i64 k0, .string p0, .string l0, .string u0, .slice da0 ds0.length dc0, .slice aa0 ats0.length ac0, .slice (some ⟨rb, ro, none⟩) ks0.length kc0, .string x0] 28)).alloc (.cells #[.int .i64 0, .string ⟨#[]⟩, .string ⟨#[]⟩, .string ⟨#[]⟩, .slice none 0 0, .slice none 0 0, .slice none 0 0, .string ⟨#[]⟩] 28)).alloc (.cells #[.int .i64 k0, .string p0, .string l0, .string u0, .slice da0 ds0.length dc0, .slice aa0 ats0.length ac0, .slice (some ⟨rb, ro, none⟩) ks0.length kc0, .string x0] 28) = W3 := ⟨_, rfl⟩
  rw [hW3] at HT0
  go_enter Try.func63, Try.ntmps63
  have HRN : Hid (NRow W3 0 (W3.alloc (.cells #[] 28)) (.slice (some ⟨W3.heap.size, 0, none⟩) 0 0) []) := NRow.new (Below.refl _ _)
  have HBW : Hid (Below w0.heap.size w0 W3) := HB0.out.trans (HT0.out.bel.mono HB0.out.size)
  have HSK : Hid (∀ W, Below W3.heap.size W3 W → NSrc W 0 (some ⟨rb, ro, none⟩) K) := fun W hb => HK.out.2.below (HBW.out.trans (hb.mono HBW.out.size))
  have hpar : ∀ o, (W3.alloc o).heap[w.heap.size]? = _ := fun o => (HT0.out.below ((Below.refl _ _).alloc (Nat.le_refl _) o)).par
  obtain ⟨n0, n1, n2, n3, n4, n5, n6, n7⟩ := box8 (hpar (.cells #[] 28))
  have hs3 := HT0.out.size
  go_wp2_with (at_builtin; refine add_row HRN.out kc0 ks0.length (HSK.out _ HRN.out.bel) (HSK.out _ (Below.refl _ _)).here (by have := HKL.out; simp; omega) (by rfl) _ _ (by rfl) (by rfl) (by rfl) HKL.out.symm ?_; rintro v1 z1 hr1; rw [List.nil_append] at hr1; obtain ⟨g1, c1, rfl, hg1, hc1, hc2, hs1⟩ := hr1.src; rw [HKL.out] at hc1 hr1; have HR1 : Hid (NRow W3 0 z1 (.slice (some ⟨g1, 0, none⟩) ks0.length c1) K) := hr1; have HG1 : Hid (W3.heap.size ≤ g1 ∧ g1 < z1.heap.size ∧ ks0.length ≤ c1 ∧ c1 ≤ maxLen) := ⟨hg1, (World.ownsRow.lt hr1.own g1 rfl).2, hc1, hc2⟩; have HT1 : Hid _ := HT0.out.below hr1.bel; clear hr1 hg1 hc1 hc2 hs1 n0 n1 n2 n3 n4 n5 n6 n7 hpar; obtain ⟨o0, o1, o2, o3, o4, o5, o6, o7⟩ := box8 HT1.out.out; obtain ⟨q0, q1, q2, q3, q4, q5, q6, q7⟩ := box_froz HT1.out.out; rw [HKL.out])
  clear o0 o1 o2 o3 o4 o5 o6 o7 q0 q1 q2 q3 q4 q5 q6 q7 hW3 HRN HSK
  obtain ⟨z2, hz2⟩ : ∃ z2, z1.setCell ⟨w.heap.size + 1 + 1, 6, none⟩ (.slice (some ⟨g1, 0, none⟩) ks0.length c1) = z2 := ⟨_, rfl⟩
  have HT2 : Hid (T3 w z2 #[.int .i64 k0, .string p0, .string l0, .string u0, .slice da0 ds0.length dc0, .slice aa0 ats0.length ac0, .slice (some ⟨rb, ro, none⟩) ks0.length kc0, .string x0] #[.int .i64 k0, .string p0, .string l0, .string u0, .slice da0 ds0.length dc0, .slice aa0 ats0.length ac0, .slice (some ⟨g1, 0, none⟩) ks0.length c1, .string x0]) := hz2 ▸ HT1.out.set 6 (.slice (some ⟨g1, 0, none⟩) ks0.length c1)
  have hsz2 : z2.heap.size = z1.heap.size := by rw [← hz2]; exact trees.size_setCell _ _ _ _
  have HR2 : Hid (∃ cur ty, z2.heap[g1]? = some (.cells cur ty (0, 0)) ∧ K.length * 8 ≤ cur.size ∧ ∀ j, j < K.length * 8 → cur[j]? = (cellsN K)[j]?) := by
    have hg := HG1.out
    have hown := own_same (w' := z2) HR1.out.own (fun g' e => by cases e; rw [← hz2]; exact Below.heap_setCell _ _ _ _ (by show g1 ≠ w.heap.size + 1 + 1; omega))
    obtain ⟨g', c', cur, e, _, h1, h2, h3⟩ := trees.ownsRow_cells hown (by have := HKL.out; omega)
    have e1 := (Value.slice.inj e).1
    cases e1
    exact ⟨cur, _, h1, h2, h3⟩
  have HG2 : Hid (W3.heap.size ≤ g1 ∧ g1 < z2.heap.size ∧ ks0.length ≤ c1 ∧ c1 ≤ maxLen) := by rw [hsz2]; exact HG1.out
  rw [hz2]
  clear hz2 hsz2 HT1 HR1 HG1
  have HB2 : Hid (Below w0.heap.size w0 z2) := HB0.out.trans (HT2.out.bel.mono HB0.out.size)
  have hmo := fun W hb => box8 ((HT2.out.below (W' := W) hb).out)
  have hmn := fun W hb => box8 ((HT2.out.below (W' := W) hb).par)
  have hmp : ∀ W, Below z2.heap.size z2 W → _ := fun W hb => HPC.out W (HB2.out.trans (hb.mono HB2.out.size))
  have hmk : ∀ W, Below z2.heap.size z2 W → _ := fun W hb => HKC.out W (HB2.out.trans (hb.mono HB2.out.size))
  have hin2 : (n : Int) < (ks0.length : Int) := by omega
  apply quiets.wp_region_then (by simp) z2 (Below.refl _ _) [true, true, true, true, true, true, true, true, true, true, true, true, true, true, true, true, true] (hm := by kernel_rfl) (hlast := by kernel_rfl) (hB := by kernel_rfl) (hwalk := ?walk1) (htail := ?tail1)
  case walk1 =>
    intro C hC0 hC1
    simp only [quiets.onB, cond_true, List.dropLast]
    repeat (go_big_quiet_step ((first | (intro hq; rfl) | (intro hq; simp [go_sem, (hmo _ (hC0 _ hq)).2.2.2.2.2.2.1]; rfl) | (intro hq; simp [go_sem, (hmn _ (hC0 _ hq)).2.2.2.2.2.2.1]; rfl) | (intro hq; simp [go_sem, hmp _ (hC0 _ hq)]; rfl) | (intro hq; simp [go_sem, (hmk _ (hC0 _ hq)).1.1, (hmk _ (hC0 _ hq)).1.2.1, (hmk _ (hC0 _ hq)).1.2.2.1, (hmk _ (hC0 _ hq)).1.2.2.2, (hmk _ (hC0 _ hq)).2.1, (hmk _ (hC0 _ hq)).2.2.1, (hmk _ (hC0 _ hq)).2.2.2.1, (hmk _ (hC0 _ hq)).2.2.2.2]; rfl) | (intro hq; simp [go_sem, hin, hpl]; rfl))))
    exact wpQuiet_nil rfl
  clear hmo hmn hmp hmk
  intro z3 hb
  have HD3 : Hid (Below z2.heap.size z2 z3) := hb
  simp only [quiets.offB, cond_true, List.dropLast, List.getLast]
  rw [HPT.out]
  clear hb
  refine quiets.tail_cons fun z4 hb => ?_
  have HD4 : Hid (Below z2.heap.size z2 z4) := HD3.out.trans (hb.mono HD3.out.size)
  clear hb
  have hc := HIH2.out (cap - 1) z4 (HB2.out.trans (HD4.out.mono HB2.out.size)) (by omega)
  unfold TurnOk at hc
  obtain ⟨yt, hyt⟩ : ∃ yt, putT (.mk kd kp kl ku kx kds kats kks) p f g L = yt := ⟨_, rfl⟩
  have HYT : Hid _ := hyt
  rw [hyt] at hc
  clear hyt
  obtain ⟨yd, yp, yl, yu, yx, yds, yats, yks⟩ := yt
  simp only [vals, Tree.kind, Tree.pre, Tree.loc, Tree.uri, Tree.text, Tree.ds, Tree.ats, Tree.kids] at hc
  have HC : Hid _ := hc
  clear hc
  go_wp2_with fail
  refine Calls.mono HC.out ?_
  rintro e z5 ⟨⟨h5, rfl, hstay⟩, hb⟩
  obtain ⟨yda, ydc, yaa, yac, yka, ykc⟩ := h5
  have HD5 : Hid (Below z2.heap.size z2 z5) := HD4.out.trans (hb.mono HD4.out.size)
  have HSTAY : Hid _ := hstay
  have HL4 : Hid (z2.heap.size ≤ z4.heap.size) := HD4.out.size
  clear hb hstay HC HD4 HD3
  go_wp2_with fail
  refine ⟨HD5.out, ?_⟩
  refine quiets.tail_cons fun z6 hb => ?_
  have HD6 : Hid (Below z2.heap.size z2 z6) := HD5.out.trans (hb.mono HD5.out.size)
  have HE6 : Hid (Below z5.heap.size z5 z6) := hb
  clear hb
  go_wp2_with fail
  refine ⟨HD6.out, ?_⟩
  refine quiets.tail_nil fun z7 hb => ?_
  have HD7 : Hid (Below z2.heap.size z2 z7) := HD6.out.trans (hb.mono HD6.out.size)
  have HE7 : Hid (Below z5.heap.size z5 z7) := HE6.out.trans (hb.mono HE6.out.size)
  clear hb HD5 HD6 HE6
  have HT7 : Hid _ := HT2.out.below HD7.out
  have HR7 : Hid (∃ cur ty, z7.heap[g1]? = some (.cells cur ty (0, 0)) ∧ K.length * 8 ≤ cur.size ∧ ∀ j, j < K.length * 8 → cur[j]? = (cellsN K)[j]?) := by
    obtain ⟨cur, ty, h1, h2, h3⟩ := HR2.out
    exact ⟨cur, ty, (HD7.out.block g1 HG2.out.2.1).trans h1, h2, h3⟩
  obtain ⟨cur, ty, hcur, hsz, hcc⟩ := HR7.out
  obtain ⟨e0, e1, e2, e3, e4, e5, e6, e7, ⟨a0, a1, a2, a3, a4, a5, a6, a7⟩, b0, b1, b2, b3, b4, b5, b6, b7⟩ := row_cells (n := n) hcur (by have := HKL.out; omega)
  have HROW : Hid (z7.heap[g1]? = some (.cells cur ty (0, 0)) ∧ K.length * 8 ≤ cur.size ∧ ∀ j, j < K.length * 8 → cur[j]? = (cellsN K)[j]?) := ⟨hcur, hsz, hcc⟩
  clear hcur hsz hcc HR7
  go_wp2_with fail
  rename_i hK
  refine hK _ _ ?_
  clear hK
  obtain ⟨Z, hZ⟩ : ∃ Z, ((((((((z7.setCell ⟨g1, n * 8, none⟩ (.int .i64 yd)).setCell ⟨g1, n * 8 + 1, none⟩ (.string yp)).setCell ⟨g1, n * 8 + 2, none⟩ (.string yl)).setCell ⟨g1, n * 8 + 3, none⟩ (.string yu)).setCell ⟨g1, n * 8 + 4, none⟩ (.slice yda yds.length ydc)).setCell ⟨g1, n * 8 + 5, none⟩ (.slice yaa yats.length yac)).setCell ⟨g1, n * 8 + 6, none⟩ (.slice yka yks.length ykc)).setCell ⟨g1, n * 8 + 7, none⟩ (.string yx)) = Z := ⟨_, rfl⟩
  have hoz : Out (fun k => k = g1) z7 Z := hZ ▸ out_row (F := fun k => k = g1) n (Out.refl _ z7) rfl _ _ _ _ _ _ _ _
  have hbz : Z.heap[g1]? = some (.cells (set8 cur n (.int .i64 yd) (.string yp) (.string yl) (.string yu) (.slice yda yds.length ydc) (.slice yaa yats.length yac) (.slice yka yks.length ykc) (.string yx)) ty (0, 0)) := hZ ▸ block8 HROW.out.1 _ _ _ _ _ _ _ _
  rw [hZ]
  have HOZ : Hid _ := hoz
  have HBZ : Hid _ := hbz
  have HTZ : Hid _ := T3.out_of HT7.out hoz (by have := HG2.out.1; have := hs3; omega)
  clear hZ hoz hbz a0 a1 a2 a3 a4 a5 a6 a7 b0 b1 b2 b3 b4 b5 b6 b7
  obtain ⟨o0, o1, o2, o3, o4, o5, o6, o7⟩ := box8 HTZ.out.out
  obtain ⟨q0, q1, q2, q3, q4, q5, q6, q7⟩ := box_froz HTZ.out.out
  obtain ⟨r0, r1, r2, r3, r4, r5, r6, r7⟩ := box8 HTZ.out.res
  obtain ⟨s0, s1, s2, s3, s4, s5, s6, s7⟩ := box_froz HTZ.out.res
  go_wp2
  refine bodyPost_ret (by simp [results, Try.results63, go_sem, r0, r1, r2, r3, r4, r5, r6, r7]; try rfl) rfl ?_
  rw [HA.out]
  have hput : putT (.mk k0 p0 l0 u0 x0 ds0 ats0 ks0) ((n : Int) :: p) f g L = .mk k0 p0 l0 u0 x0 ds0 ats0 (ks0.set n (.mk yd yp yl yu yx yds yats yks)) := by
    show withKids _ (List.set ks0 (Int.toNat n) (putT (kid ks0 (Int.toNat n)) p f g L)) = _
    rw [Int.toNat_natCast, HKID.out, HYT.out]
    rfl
  rw [hput]
  have hsl : (ks0.set n (.mk yd yp yl yu yx yds yats yks)).length = ks0.length := List.length_set
  have hg := HG2.out
  have hl4 := HL4.out
  have hw0 := HB0.out.size
  refine ⟨⟨⟨da0, dc0, aa0, ac0, some ⟨g1, 0, none⟩, c1⟩, ?_, ?_⟩, below8 HTZ.out.bel (by omega) _ _ _ _ _ _ _ _⟩
  · rw [← hsl]
    rfl
  · have hout : Out (fun b => b = w.heap.size + 1) Z _ := out8 (F := fun b => b = w.heap.size + 1) (g := w.heap.size + 1) (Out.refl _ Z) rfl (.int .i64 k0) (.string p0) (.string l0) (.string u0) (.slice da0 ds0.length dc0) (.slice aa0 ats0.length ac0) (.slice (some ⟨g1, 0, none⟩) ks0.length c1) (.string x0)
    have hbel : Below w.heap.size w _ := hout.below HTZ.out.bel (fun b e => by subst e; omega) HTZ.out.bel.size
    intro w'' hk
    have hfit := HN.out.fit
    have hb0 := HB0.out.trans (hbel.mono HB0.out.size)
    have old : ∀ k, k < w0.heap.size → w''.heap[k]? = w0.heap[k]? := fun k hk' => (hk.block k (Nat.lt_of_lt_of_le hk' hb0.size) (fun e => by have := e.1; omega)).trans (hb0.block k hk')
    have hsz := Nat.le_trans hb0.size hk.size
    have hml : (ks0.set n (.mk yd yp yl yu yx yds yats yks)).length ≤ maxLen := by rw [hsl]; unfold maxLen; omega
    have hstay := HSTAY.out w'' ((((Out.of_below HE7.out).trans (HOZ.out.mono (fun b e => by subst e; exact ⟨by omega, by omega⟩))).trans (hout.mono (fun b e => by subst e; exact ⟨by omega, by omega⟩))).trans (hk.mono (fun b e => ⟨e.1, by have := e.2; omega⟩)))
    have hgZ : g1 < Z.heap.size := pairs.lt_heap HBZ.out
    have hblk := (hk.block g1 (Nat.lt_of_lt_of_le hgZ hout.size) (fun e => by have := e.2; omega)).trans ((hout.block g1 hgZ (fun e => by omega)).trans HBZ.out)
    have hkl2 := HKL.out
    have hrow := row_turned (K := K) (n := n) (x := (.mk yd yp yl yu yx yds yats yks, ⟨yda, ydc, yaa, yac, yka, ykc⟩)) HROW.out.2.1 HROW.out.2.2 (by omega) hblk rfl
    have hsrc : NSrc w'' 0 (some ⟨g1, 0, none⟩) (K.set n (.mk yd yp yl yu yx yds yats yks, ⟨yda, ydc, yaa, yac, yka, ykc⟩)) := by
      refine ⟨fun _ => ⟨g1, 0, rfl, pairs.lt_heap hblk, fun i hi => ?_⟩, fun i hi => ?_⟩
      · rw [List.length_set] at hi
        exact hrow i hi
      · rw [List.length_set] at hi
        rw [th_set K n i _ (by omega)]
        by_cases e : i = n
        · rw [if_pos e]
          exact hstay
        · rw [if_neg e]
          exact NodeIn.keep hsz (fun k _ hlt => old k hlt) _ _ (HK.out.2.here i hi)
    have hkids := hsrc.at (by rw [List.length_set]; unfold maxLen; omega) (fun _ _ => Nat.zero_le _)
    rw [trees1_set, HK.out.1] at hkids
    exact trees.node_of (t := .mk k0 p0 l0 u0 x0 ds0 ats0 (ks0.set n (.mk yd yp yl yu yx yds yats yks))) (h := ⟨da0, dc0, aa0, ac0, some ⟨g1, 0, none⟩, c1⟩) ⟨⟨hfit.1, hfit.2.1, hfit.2.2.1, hfit.2.2.2.1, hfit.2.2.2.2.1, hml⟩, by show (ks0.set n _).length ≤ c1; rw [hsl]; exact hg.2.2.1⟩ (trees.pairs_keep HN.out.decls hsz (fun b _ _ hlt => old b hlt)) (HN.out.atts.keep hsz (fun b _ _ hlt => old b hlt)) hkids (fun _ _ => Nat.zero_le _) (fun _ _ => Nat.zero_le _)
/-- What l10Turn answers. -/
theorem turn_any : ∀ (f g : Nat) (L : List Tree) (b : Option Addr) (cl : Nat) (P : List Int) (t : Tree) (h : Hdr) (a : Option Addr) (cap : Nat) (w0 w : World) (x : Tree), Below w0.heap.size w0 w → nsz t + nszs L ≤ 1048576 → f ≤ g → g ≤ x.kids.length → atT t P = some x → P.length ≤ cap → IntsAt w0 a P → NodeIn w0 0 t h → NodesAt w0 0 b L → TurnOk t h P a cap f g L b cl w0 w
  | f, g, L, b, cl, [], t, h, a, cap, w0, w, x, hb, hz, hfg, hg, hat, _, _, hn, hL => by
    unfold atT at hat
    cases hat
    exact turn_leaf t h a cap f g L b cl w0 w hb hz hfg hg hn hL
  | f, g, L, b, cl, i :: p, t, h, a, cap, w0, w, x, hb, hz, hfg, hg, hat, hcap, hP, hn, hL => turn_step i p (fun t h a cap f g L b cl w0 w x hb hz hfg hg hat hcap hP hn hL => turn_any f g L b cl p t h a cap w0 w x hb hz hfg hg hat hcap hP hn hL) t h a cap f g L b cl w0 w x hb hz hfg hg hat hcap hP hn hL
end Go.Proofs.Ytpejcblmglbjfaa.paths
