/-
  What the program's copyNode answers (slices.Clone at its three lists).
-/
import Derived.Test.YtpejcblmglbjfaaCopyP
import Derived.Deep.RegionWith
namespace Go.Proofs.Ytpejcblmglbjfaa.trees
open Go.ChangeShapes Go.WideShapes Go.ChangeAt Go.RowKit
open pairs (Pair at0 PairsAt)
set_option linter.unusedVariables false
theorem made_own {w w' : World} {g : Nat} {L : List Pair} (h : pairs.Made w' g L L.length) (hg : w.heap.size ≤ g) : OwnP w' (some ⟨g, 0, none⟩) L (Rng w w') := fun _ => ⟨g, rfl, ⟨hg, h.lt⟩, h⟩
set_option maxRecDepth 100000 in
set_option maxHeartbeats 2000000 in
theorem clone_decl (a : Option Addr) (L : List Pair) (cap : Nat) (w : World) (hL : PairsAt w a L) (hz : L.length ≤ 1048576) : Calls Try.prog 83 #[.slice a L.length cap] w fun e w' => (∃ a' c', e = .returned (.slice a' L.length c') ∧ OwnP w' a' L (Rng w w')) ∧ Below w.heap.size w w' := by
  have HL : Hid _ := hL
  cases a with
  | none =>
    have e0 : L = [] := by
      cases L with
      | nil => rfl
      | cons p r => obtain ⟨b, off, ha, _⟩ := hL.row (by simp); cases ha
    subst e0
    clear hL
    have hnil : ∀ W, Sem.run Try.prog (binOp BinOp.eql 24 (.slice none 0 cap) (.slice none 0 0)) W = .ok (.bool true) W := fun W => by kernel_rfl
    go_enter Try.func83, Try.ntmps83
    go_wp2
    go_ret
    exact ⟨⟨none, 0, rfl, fun h => absurd h (by simp)⟩, Below.refl _ _⟩
  | some ad =>
    clear hL
    have hnil : ∀ W, Sem.run Try.prog (binOp BinOp.eql 24 (.slice (some ad) L.length cap) (.slice none 0 0)) W = .ok (.bool false) W := fun W => by kernel_rfl
    go_enter Try.func83, Try.ntmps83
    go_wp2_with (at_builtin; refine pairs.app_Decl w.heap.size _ [] L (some ad) cap (pairs.new_Decl w _ (Nat.le_refl _)) (HL.out.below (Nat.le_refl _) ((Below.refl _ _).alloc (Nat.le_refl _) _)) (by simp; omega) (by simp) (by simp) (by rfl) _ _ (by rfl) (by rfl) (by rfl) ?_; rintro v1 w1 ho1 hb1 hv1)
    go_ret
    obtain ⟨g1, c1, rfl, hg1, hm1⟩ := ho1.made hv1
    exact ⟨⟨_, c1, rfl, made_own hm1 hg1⟩, ((Below.refl _ _).alloc (Nat.le_refl _) _).trans hb1⟩
set_option maxRecDepth 100000 in
set_option maxHeartbeats 2000000 in
theorem clone_attr (a : Option Addr) (L : List Att) (cap : Nat) (w : World) (hL : AttsAt w a L) (hz : L.length ≤ 1048576) : Calls Try.prog 84 #[.slice a L.length cap] w fun e w' => (∃ a' c', e = .returned (.slice a' L.length c') ∧ OwnA w' a' L (Rng w w')) ∧ Below w.heap.size w w' := by
  have HL : Hid _ := hL
  cases a with
  | none =>
    have e0 : L = [] := by
      cases L with
      | nil => rfl
      | cons p r => obtain ⟨b, off, ha, _⟩ := hL.row (by simp); cases ha
    subst e0
    clear hL
    have hnil : ∀ W, Sem.run Try.prog (binOp BinOp.eql 25 (.slice none 0 cap) (.slice none 0 0)) W = .ok (.bool true) W := fun W => by kernel_rfl
    go_enter Try.func84, Try.ntmps84
    go_wp2
    go_ret
    exact ⟨⟨none, 0, rfl, fun h => absurd h (by simp)⟩, Below.refl _ _⟩
  | some ad =>
    clear hL
    have hnil : ∀ W, Sem.run Try.prog (binOp BinOp.eql 25 (.slice (some ad) L.length cap) (.slice none 0 0)) W = .ok (.bool false) W := fun W => by kernel_rfl
    go_enter Try.func84, Try.ntmps84
    go_wp2_with (at_builtin; refine app_Attr w.heap.size _ L (some ad) cap (new_Attr w) (HL.out.below (Nat.le_refl _) ((Below.refl _ _).alloc (Nat.le_refl _) _)) (by omega) (by simp) (by simp) (by rfl) _ _ (by rfl) (by rfl) (by rfl) ?_; rintro v1 w1 ho1 hb1 hv1)
    go_ret
    obtain ⟨g1, c1, rfl, hg1, hl1, hm1⟩ := own_madeA ho1 hv1
    exact ⟨⟨_, c1, rfl, fun _ => ⟨g1, rfl, ⟨hg1, hl1⟩, hm1⟩⟩, ((Below.refl _ _).alloc (Nat.le_refl _) _).trans hb1⟩
/-- A row of nodes whose first k are copies of the call's own, the others as they came. -/
structure RowC (w : World) (g n : Nat) (L : List Tree) (H : Nat → Hdr) (G : Nat → Bset) (k : Nat) (cur : Array Value) (ty : TypeId) : Prop where
  blk : w.heap[g]? = some (.cells cur ty (0, 0))
  room : n * 8 ≤ cur.size
  rng : ∀ i, Inc (G i) (fun b => g < b ∧ b < w.heap.size)
  apart : ∀ i j, i ≠ j → Apart (G i) (G j)
  done : ∀ j, j < k → ∃ h, OwnN w (kid L j) h (G j) ∧ ∀ q, q < 8 → cur[j * 8 + q]? = (vals (kid L j) h)[q]?
  todo : ∀ j, k ≤ j → j < n → ∀ q, q < 8 → cur[j * 8 + q]? = (vals (kid L j) (H j))[q]?
theorem RowC.below {w w' : World} {g n : Nat} {L : List Tree} {H : Nat → Hdr} {G : Nat → Bset} {k : Nat} {cur : Array Value} {ty : TypeId} (h : RowC w g n L H G k cur ty) (hb : Below w.heap.size w w') : RowC w' g n L H G k cur ty :=
  ⟨(hb.block g (pairs.lt_heap h.blk)).trans h.blk, h.room, fun i b hb' => ⟨(h.rng i b hb').1, Nat.lt_of_lt_of_le (h.rng i b hb').2 hb.size⟩, h.apart, fun j hj => by
    obtain ⟨h', e1, e2⟩ := h.done j hj
    exact ⟨h', e1.below hb, e2⟩, h.todo⟩
/-- One more copy is stored. -/
theorem RowC.next {w : World} {g n : Nat} {L : List Tree} {H : Nat → Hdr} {G : Nat → Bset} {k : Nat} {cur : Array Value} {ty : TypeId} {F : Bset} {h : Hdr} {t : Tree} (hr : RowC w g n L H G k cur ty) (hk : k < n) (ht : t = kid L k) (hn : OwnN w t h F) (hF : Inc F (fun b => g < b ∧ b < w.heap.size)) (hFa : ∀ i, Apart (G i) F) (hGk : ∀ i, k ≤ i → ∀ b, ¬ G i b) :
    RowC ((((((((w.setCell ⟨g, k * 8, none⟩ (.int .i64 t.kind)).setCell ⟨g, k * 8 + 1, none⟩ (.string t.pre)).setCell ⟨g, k * 8 + 2, none⟩ (.string t.loc)).setCell ⟨g, k * 8 + 3, none⟩ (.string t.uri)).setCell ⟨g, k * 8 + 4, none⟩ (.slice h.da t.ds.length h.dc)).setCell ⟨g, k * 8 + 5, none⟩ (.slice h.aa t.ats.length h.ac)).setCell ⟨g, k * 8 + 6, none⟩ (.slice h.ka t.kids.length h.kc)).setCell ⟨g, k * 8 + 7, none⟩ (.string t.text)) g n L H (fun i => if i = k then F else G i) (k + 1)
      (set8 cur k (.int .i64 t.kind) (.string t.pre) (.string t.loc) (.string t.uri) (.slice h.da t.ds.length h.dc) (.slice h.aa t.ats.length h.ac) (.slice h.ka t.kids.length h.kc) (.string t.text)) ty := by
  have ho : Out (fun b => b = g) w ((((((((w.setCell ⟨g, k * 8, none⟩ (.int .i64 t.kind)).setCell ⟨g, k * 8 + 1, none⟩ (.string t.pre)).setCell ⟨g, k * 8 + 2, none⟩ (.string t.loc)).setCell ⟨g, k * 8 + 3, none⟩ (.string t.uri)).setCell ⟨g, k * 8 + 4, none⟩ (.slice h.da t.ds.length h.dc)).setCell ⟨g, k * 8 + 5, none⟩ (.slice h.aa t.ats.length h.ac)).setCell ⟨g, k * 8 + 6, none⟩ (.slice h.ka t.kids.length h.kc)).setCell ⟨g, k * 8 + 7, none⟩ (.string t.text)) :=
    ((((((((Out.refl _ w).set (F := fun b => b = g) rfl _ _).set (F := fun b => b = g) rfl _ _).set (F := fun b => b = g) rfl _ _).set (F := fun b => b = g) rfl _ _).set (F := fun b => b = g) rfl _ _).set (F := fun b => b = g) rfl _ _).set (F := fun b => b = g) rfl _ _).set (F := fun b => b = g) rfl _ _
  have hrm := hr.room
  have hG : ∀ i, Apart (if i = k then F else G i) (fun b => b = g) := fun i b hb e => by
    by_cases hi : i = k
    · rw [if_pos hi] at hb; have := (hF b hb).1; omega
    · rw [if_neg hi] at hb; have := (hr.rng i b hb).1; omega
  refine ⟨pairs.block_set _ (pairs.block_set _ (pairs.block_set _ (pairs.block_set _ (pairs.block_set _ (pairs.block_set _ (pairs.block_set _ (pairs.block_set _ hr.blk))))))), by simpa [set8] using hrm, fun i b hb => ?_, fun i j hij b hb hc => ?_, fun j hj => ?_, fun j hj hjn q hq => ?_⟩
  · by_cases hi : i = k
    · rw [if_pos hi] at hb; exact ⟨(hF b hb).1, Nat.lt_of_lt_of_le (hF b hb).2 ho.size⟩
    · rw [if_neg hi] at hb; exact ⟨(hr.rng i b hb).1, Nat.lt_of_lt_of_le (hr.rng i b hb).2 ho.size⟩
  · by_cases hi : i = k
    · rw [if_pos hi] at hb
      rw [if_neg (by omega)] at hc
      exact hFa j b hc hb
    · rw [if_neg hi] at hb
      by_cases hj : j = k
      · rw [if_pos hj] at hc; exact hFa i b hb hc
      · rw [if_neg hj] at hc; exact hr.apart i j hij b hb hc
  · by_cases e : j = k
    · subst e ht
      refine ⟨h, ?_, fun q hq => ?_⟩
      · have := hG j
        rw [if_pos rfl] at this ⊢
        exact hn.out ho this
      · exact set8_in cur j _ _ _ _ _ _ _ _ (by omega) q hq
    · obtain ⟨h', e1, e2⟩ := hr.done j (by omega)
      refine ⟨h', ?_, fun q hq => ?_⟩
      · have := hG j
        rw [if_neg e] at this ⊢
        exact e1.out ho this
      · rw [set8_out cur k j _ _ _ _ _ _ _ _ e q hq]
        exact e2 q hq
  · rw [set8_out cur k j _ _ _ _ _ _ _ _ (by omega) q hq]
    exact hr.todo j (by omega) hjn q hq
set_option maxRecDepth 100000 in
set_option maxHeartbeats 2000000 in
theorem clone_node (B : Nat) (a : Option Addr) (L : List Tree) (cap : Nat) (W0 w : World) (hb0 : Below W0.heap.size W0 w) (hL : NodesAt W0 B a L) (hz : L.length ≤ 1048576) : Calls Try.prog 85 #[.slice a L.length cap] w fun e w' => (∃ a' c', e = .returned (.slice a' L.length c') ∧ L.length ≤ c' ∧ (0 < L.length → ∃ g cur ty H, a' = some ⟨g, 0, none⟩ ∧ w.heap.size ≤ g ∧ (∀ i, i < L.length → NodeIn W0 B (kid L i) (H i)) ∧ RowC w' g L.length L H (fun _ _ => False) 0 cur ty)) ∧ Below w.heap.size w w' := by
  have HL : Hid _ := hL
  cases a with
  | none =>
    have e0 : L = [] := by
      cases L with
      | nil => rfl
      | cons p r => obtain ⟨b, off, ha, _⟩ := hL.row (by simp); cases ha
    subst e0
    clear hL
    have hnil : ∀ W, Sem.run Try.prog (binOp BinOp.eql 26 (.slice none 0 cap) (.slice none 0 0)) W = .ok (.bool true) W := fun W => by kernel_rfl
    go_enter Try.func85, Try.ntmps85
    go_wp2
    go_ret
    exact ⟨⟨none, 0, rfl, Nat.le_refl _, fun h => absurd h (by simp)⟩, Below.refl _ _⟩
  | some ad =>
    obtain ⟨P, hP, hcells⟩ : ∃ P : List TH, P.length = L.length ∧ (0 < L.length → ∃ b off, ad = ⟨b, off, none⟩ ∧ b < W0.heap.size ∧ ∀ i, i < P.length → (th0 P i).1 = kid L i ∧ NodeIn W0 B (kid L i) (th0 P i).2 ∧ ∀ j, j < 8 → W0.cell? ⟨b, off + i * 8 + j, none⟩ = (vals (th0 P i).1 (th0 P i).2)[j]?) := by
      by_cases h0 : 0 < L.length
      · obtain ⟨b, off, ha, hlt, hk⟩ := hL.row h0
        obtain ⟨H, hH⟩ : ∃ H : Nat → Hdr, ∀ i, i < L.length → NodeIn W0 B (kid L i) (H i) ∧ ∀ j, j < 8 → W0.cell? ⟨b, off + i * 8 + j, none⟩ = (vals (kid L i) (H i))[j]? := by
          refine ⟨fun i => if h : i < L.length then Classical.choose (hk i h) else ⟨none, 0, none, 0, none, 0⟩, fun i hi => ?_⟩
          simp only [dif_pos hi]
          obtain ⟨h1, c0, c1, c2, c3, c4, c5, c6, c7⟩ := Classical.choose_spec (hk i hi)
          refine ⟨h1, fun j hj => ?_⟩
          rcases (show j = 0 ∨ j = 1 ∨ j = 2 ∨ j = 3 ∨ j = 4 ∨ j = 5 ∨ j = 6 ∨ j = 7 by omega) with rfl | rfl | rfl | rfl | rfl | rfl | rfl | rfl
          · exact c0
          · exact c1
          · exact c2
          · exact c3
          · exact c4
          · exact c5
          · exact c6
          · exact c7
        have hget : ∀ i, i < L.length → th0 ((List.range L.length).map fun i => (kid L i, H i)) i = (kid L i, H i) := fun i hi => by
          unfold th0
          rw [List.getD_eq_getElem?_getD, List.getElem?_map, List.getElem?_range hi]
          rfl
        refine ⟨(List.range L.length).map fun i => (kid L i, H i), by simp, fun _ => ⟨b, off, Option.some.inj ha, hlt, fun i hi => ?_⟩⟩
        rw [List.length_map, List.length_range] at hi
        rw [hget i hi]
        exact ⟨rfl, (hH i hi).1, (hH i hi).2⟩
      · exact ⟨[], by simp; omega, fun h => absurd h h0⟩
    obtain ⟨i0, hi, hz0, hz1, hz2⟩ := info_parts infoN
    have HP : Hid (P.length = L.length) := hP
    have HB0 : Hid _ := hb0
    have HC : Hid (0 < L.length → ∃ b off, ad = ⟨b, off, none⟩ ∧ b < W0.heap.size ∧ ∀ i, i < P.length → (th0 P i).1 = kid L i ∧ NodeIn W0 B (kid L i) (th0 P i).2 ∧ ∀ j, j < 8 → W0.cell? ⟨b, off + i * 8 + j, none⟩ = (vals (th0 P i).1 (th0 P i).2)[j]?) := hcells
    have HNW : Hid (∀ o, ∀ a0, some ad = some a0 → ∀ j u, (cellsN P)[j]? = some u → (w.alloc o).cell? (a0.add j) = some u) := fun o a0 e j u hu => by
      obtain rfl : ad = a0 := by injection e
      have hj : j < P.length * 8 := by
        have := (List.getElem?_eq_some_iff.1 hu).1
        rwa [cellsN_len] at this
      obtain ⟨b, off, rfl, hlt, hk⟩ := HC.out (by have := HP.out; omega)
      have h1 := cellsN_here (fun i hi => (hk i hi).2.2) j u hu
      rw [Addr.add_lit] at h1 ⊢
      exact ((HB0.out.alloc HB0.out.size o).cell (p := ⟨b, off + j, none⟩) hlt).trans h1
    have HLN : Hid ((cellsN P).length = L.length * 8) := by show _ = _; rw [cellsN_len, hP]
    clear hL hP hcells hb0
    have hnil : ∀ W, Sem.run Try.prog (binOp BinOp.eql 26 (.slice (some ad) L.length cap) (.slice none 0 0)) W = .ok (.bool false) W := fun W => by kernel_rfl
    go_enter Try.func85, Try.ntmps85
    go_wp2_with (at_builtin; refine app_new w.heap.size _ 26 28 i0 _ 8 144 Try.underlying26 hi hz0 hz1 hz2 rfl (by decide) (by decide) L.length (cellsN P) (some ad) cap (World.ownsRow_made w #[] 0 (Nat.le_refl _) (by decide) (by decide)) HLN.out (HNW.out _) (fun e => by cases e) (cellsN_one P) (by omega) (by simp) (by simp) (by rfl) _ _ (by rfl) (by rfl) (by rfl) ?_; rintro v1 w1 ho1 hb1 hv1)
    go_ret
    refine ⟨?_, ((Below.refl _ _).alloc (Nat.le_refl _) _).trans hb1⟩
    have hsl : ∃ a' c', v1 = .slice a' L.length c' ∧ L.length ≤ c' := by
      rcases ho1.2 with ⟨rfl, _⟩ | ⟨g, cap', cur, rfl, _, _, h2, _⟩
      · exact absurd rfl hv1
      · exact ⟨_, _, rfl, h2⟩
    obtain ⟨a', c', rfl, hcap⟩ := hsl
    refine ⟨a', c', rfl, hcap, fun h0 => ?_⟩
    obtain ⟨g, cp, cur, hv, hB, hg, hr, hx⟩ := ownsRow_cells ho1 h0
    obtain ⟨b, off, rfl, hlt, hk⟩ := HC.out h0
    have hPl := HP.out
    refine ⟨g, cur, _, fun i => (th0 P i).2, by injection hv, hB, fun i hi => (hk i (by omega)).2.1, hg, hr, fun i b hb => hb.elim, fun i j _ b hb _ => hb, fun j hj => absurd hj (by omega), fun j _ hj q hq => ?_⟩
    rw [hx (j * 8 + q) (by omega), cellsN_at P j q (by omega) hq, (hk j (by omega)).1]
theorem RowC.set_other {w : World} {g n b o : Nat} {u : Value} {L : List Tree} {H : Nat → Hdr} {G : Nat → Bset} {k : Nat} {cur : Array Value} {ty : TypeId} (h : RowC w g n L H G k cur ty) (hb : b < g) : RowC (w.setCell ⟨b, o, none⟩ u) g n L H G k cur ty := by
  have ho : Out (fun x => x = b) w (w.setCell ⟨b, o, none⟩ u) := (Out.refl _ w).set (F := fun x => x = b) rfl o u
  exact ⟨(ho.block g (pairs.lt_heap h.blk) (fun e => by omega)).trans h.blk, h.room, fun i c hc => ⟨(h.rng i c hc).1, Nat.lt_of_lt_of_le (h.rng i c hc).2 ho.size⟩, h.apart, fun j hj => by
    obtain ⟨h', e1, e2⟩ := h.done j hj
    exact ⟨h', e1.out ho (fun c hc e => by have := (h.rng j c hc).1; omega), e2⟩, h.todo⟩
theorem RowC.own {w : World} {g : Nat} {L : List Tree} {H : Nat → Hdr} {G : Nat → Bset} {cur : Array Value} {ty : TypeId} (h : RowC w g L.length L H G L.length cur ty) : OwnL w (some ⟨g, 0, none⟩) L (fun b => g ≤ b ∧ b < w.heap.size) := fun _ =>
  ⟨g, cur, ty, G, rfl, ⟨Nat.le_refl _, pairs.lt_heap h.blk⟩, h.blk, h.room, fun i b hb => ⟨Nat.le_of_lt (h.rng i b hb).1, (h.rng i b hb).2⟩, fun i hb => by have := (h.rng i _ hb).1; omega, h.apart, fun i hi => h.done i hi⟩
theorem RowC.cells {w : World} {g n : Nat} {L : List Tree} {H : Nat → Hdr} {G : Nat → Bset} {k : Nat} {cur : Array Value} {ty : TypeId} (h : RowC w g n L H G k cur ty) (hk : k < n) : w.cell? ⟨g, k * 8, none⟩ = some (.int .i64 (kid L k).kind) ∧ w.cell? ⟨g, k * 8 + 1, none⟩ = some (.string (kid L k).pre) ∧ w.cell? ⟨g, k * 8 + 2, none⟩ = some (.string (kid L k).loc) ∧ w.cell? ⟨g, k * 8 + 3, none⟩ = some (.string (kid L k).uri) ∧ w.cell? ⟨g, k * 8 + 4, none⟩ = some (.slice (H k).da (kid L k).ds.length (H k).dc) ∧ w.cell? ⟨g, k * 8 + 5, none⟩ = some (.slice (H k).aa (kid L k).ats.length (H k).ac) ∧ w.cell? ⟨g, k * 8 + 6, none⟩ = some (.slice (H k).ka (kid L k).kids.length (H k).kc) ∧ w.cell? ⟨g, k * 8 + 7, none⟩ = some (.string (kid L k).text) := by
  have e : ∀ q, q < 8 → w.cell? ⟨g, k * 8 + q, none⟩ = (vals (kid L k) (H k))[q]? := fun q hq => (show w.cell? ⟨g, k * 8 + q, none⟩ = cur[k * 8 + q]? by simp [World.cell?, h.blk]).trans (h.todo k (Nat.le_refl _) hk q hq)
  exact ⟨e 0 (by omega), e 1 (by omega), e 2 (by omega), e 3 (by omega), e 4 (by omega), e 5 (by omega), e 6 (by omega), e 7 (by omega)⟩
theorem RowC.froz {w : World} {g n : Nat} {L : List Tree} {H : Nat → Hdr} {G : Nat → Bset} {k : Nat} {cur : Array Value} {ty : TypeId} (h : RowC w g n L H G k cur ty) (i : Nat) : w.frozen? ⟨g, i, none⟩ = false := by simp [World.frozen?, h.blk]
/-- The two boxes of a copy. -/
structure T2 (w W : World) (O : Array Value) : Prop where
  par : W.heap[w.heap.size]? = some (.cells O 28 (0, 0))
  res : W.heap[w.heap.size + 1]? = some (.cells #[.int .i64 0, .string ⟨#[]⟩, .string ⟨#[]⟩, .string ⟨#[]⟩, .slice none 0 0, .slice none 0 0, .slice none 0 0, .string ⟨#[]⟩] 28 (0, 0))
  bel : Below w.heap.size w W
theorem T2.size {w W : World} {O : Array Value} (h : T2 w W O) : w.heap.size + 2 ≤ W.heap.size := pairs.lt_heap h.res
theorem T2.new (w : World) (O : Array Value) : T2 w ((w.alloc (.cells O 28)).alloc (.cells #[.int .i64 0, .string ⟨#[]⟩, .string ⟨#[]⟩, .string ⟨#[]⟩, .slice none 0 0, .slice none 0 0, .slice none 0 0, .string ⟨#[]⟩] 28)) O := by
  refine ⟨?_, ?_, ((Below.refl _ w).alloc (Nat.le_refl _) _).alloc (by simp) _⟩
  · exact (Below.heap_alloc _ _ _ (by simp)).trans (heap_alloc_new w _)
  · have := heap_alloc_new (w.alloc (.cells O 28)) (.cells #[.int .i64 0, .string ⟨#[]⟩, .string ⟨#[]⟩, .string ⟨#[]⟩, .slice none 0 0, .slice none 0 0, .slice none 0 0, .string ⟨#[]⟩] 28)
    rw [World.size_alloc] at this
    exact this
theorem T2.below {w W W' : World} {O : Array Value} (h : T2 w W O) (hb : Below W.heap.size W W') : T2 w W' O :=
  ⟨(hb.block _ (pairs.lt_heap h.par)).trans h.par, (hb.block _ (pairs.lt_heap h.res)).trans h.res, h.bel.trans (hb.mono h.bel.size)⟩
theorem T2.set {w W : World} {O : Array Value} (h : T2 w W O) (i : Nat) (u : Value) : T2 w (W.setCell ⟨w.heap.size, i, none⟩ u) (O.setIfInBounds i u) :=
  ⟨pairs.block_set _ h.par, (Below.heap_setCell _ ⟨w.heap.size, i, none⟩ _ _ (by show w.heap.size + 1 ≠ w.heap.size; omega)).trans h.res, h.bel.setCell (p := ⟨w.heap.size, i, none⟩) (Nat.le_refl _) _⟩
theorem T2.out {w W W' : World} {O : Array Value} {F : Bset} (h : T2 w W O) (ho : Out F W W') (hF : ∀ b, F b → w.heap.size + 2 ≤ b) : T2 w W' O :=
  ⟨(ho.block _ (pairs.lt_heap h.par) (fun hf => by have := hF _ hf; omega)).trans h.par, (ho.block _ (pairs.lt_heap h.res) (fun hf => by have := hF _ hf; omega)).trans h.res, ho.below h.bel (fun b hb => by have := hF b hb; omega) h.bel.size⟩
theorem copy_end {w W W' : World} {t : Tree} {h : Hdr} {s1 s2 : Nat} (hf : t.fits ∧ t.kids.length ≤ h.kc) (hp : PFit t.ds ∧ AFit t.ats) (o1 : OwnP W h.da t.ds (fun b => w.heap.size + 2 ≤ b ∧ b < s1)) (o2 : OwnA W h.aa t.ats (fun b => s1 ≤ b ∧ b < s2)) (o3 : OwnL W h.ka t.kids (fun b => s2 ≤ b ∧ b < W.heap.size)) (l1 : w.heap.size + 2 ≤ s1) (l2 : s1 ≤ s2) (l3 : s2 ≤ W.heap.size) (ho : Out (fun b => b = w.heap.size + 1) W W') : OwnN W' t h (Rng w W') := by
  have hs := ho.size
  exact PartsN.node (FD := fun b => w.heap.size + 2 ≤ b ∧ b < s1) (FA := fun b => s1 ≤ b ∧ b < s2) (FK := fun b => s2 ≤ b ∧ b < W.heap.size) ⟨hf, hp.1, hp.2, fun b hb => ⟨by have := hb.1; omega, by have := hb.2; omega⟩, fun b hb => ⟨by have := hb.1; omega, by have := hb.2; omega⟩, fun b hb => ⟨by have := hb.1; omega, by have := hb.2; omega⟩, fun b hb hc => by have := hb.2; have := hc.1; omega, fun b hb hc => by have := hb.2; have := hc.1; omega, fun b hb hc => by have := hb.2; have := hc.1; omega,
    o1.out ho (fun b hb e => by have := hb.1; omega), o2.out ho (fun b hb e => by have := hb.1; omega), o3.out ho (fun b hb e => by have := hb.1; omega)⟩
theorem out8 {w : World} {g : Nat} {u0 u1 u2 u3 u4 u5 u6 u7 : Value} : Out (fun b => b = g) w ((((((((w.setCell ⟨g, 0, none⟩ u0).setCell ⟨g, 1, none⟩ u1).setCell ⟨g, 2, none⟩ u2).setCell ⟨g, 3, none⟩ u3).setCell ⟨g, 4, none⟩ u4).setCell ⟨g, 5, none⟩ u5).setCell ⟨g, 6, none⟩ u6).setCell ⟨g, 7, none⟩ u7) :=
  ((((((((Out.refl _ w).set (F := fun b => b = g) rfl _ _).set (F := fun b => b = g) rfl _ _).set (F := fun b => b = g) rfl _ _).set (F := fun b => b = g) rfl _ _).set (F := fun b => b = g) rfl _ _).set (F := fun b => b = g) rfl _ _).set (F := fun b => b = g) rfl _ _).set (F := fun b => b = g) rfl _ _
set_option maxRecDepth 100000 in
set_option maxHeartbeats 8000000 in
theorem copy_node_of (n B : Nat) (ih : ∀ t h w, tsize t < n → nsz t ≤ 1048576 → NodeIn w B t h → CopyOk 52 t h w)
    (t : Tree) (h : Hdr) (w : World) (ht : tsize t ≤ n) (hz : nsz t ≤ 1048576) (hn : NodeIn w B t h) : CopyOk 52 t h w := by
  have hkt := tsize_kid t
  obtain ⟨k, p, l, u, x, ds, ats, ks⟩ := t
  obtain ⟨da, dc, aa, ac, ka, kc⟩ := h
  have HD : Hid (PairsAt w da ds) := hn.decls
  have HA : Hid (AttsAt w aa ats) := hn.atts
  have HK : Hid (NodesAt w B ka ks) := kids_at hn
  have HFT : Hid (Tree.fits (.mk k p l u x ds ats ks)) := hn.fit
  rw [nsz] at hz
  have HZD : Hid (ds.length ≤ 1048576) := by show _ ≤ _; omega
  have HZA : Hid (ats.length ≤ 1048576) := by unfold smallA at hz; show _ ≤ _; omega
  have HZK : Hid (nszs ks ≤ 1048576) := by show _ ≤ _; omega
  have HZL : Hid (ks.length ≤ 1048576) := by have := nszs_eq ks; have := HZK.out; show _ ≤ _; omega
  have hkl : ks.length ≤ 1048576 := HZL.out
  have HPF : Hid (PFit ds ∧ AFit ats) := ⟨⟨hn.decls.short, hn.decls.texts⟩, hn.atts.short, hn.atts.texts⟩
  have HKT : Hid (∀ i, i < ks.length → tsize (kid ks i) < n) := fun i hi => Nat.lt_of_lt_of_le (hkt i hi) ht
  have HIH : Hid _ := ih
  unfold CopyOk
  simp only [vals, Tree.kind, Tree.pre, Tree.loc, Tree.uri, Tree.text, Tree.ds, Tree.ats, Tree.kids]
  clear ih hn ht hz hkt
  go_enter Try.func52, Try.ntmps52
  have HT0 : Hid _ := T2.new w #[.int .i64 k, .string p, .string l, .string u, .slice da ds.length dc, .slice aa ats.length ac, .slice ka ks.length kc, .string x]
  go_wp2_with fail
  refine (clone_decl da ds dc _ (HD.out.below (Nat.le_refl _) HT0.out.bel) HZD.out).mono ?_
  rintro e w1 ⟨⟨a1, c1, rfl, hd⟩, hb⟩
  have HT1 : Hid _ := HT0.out.below hb
  have HG1 : Hid (OwnP w1 a1 ds (fun b => w.heap.size + 2 ≤ b ∧ b < w1.heap.size)) := OwnP.sub hd (fun b hb' => ⟨Nat.le_trans HT0.out.size hb'.1, hb'.2⟩)
  have HT2 : Hid _ := HT1.out.set 4 (.slice a1 ds.length c1)
  have HG2 : Hid (OwnP (w1.setCell ⟨w.heap.size, 4, none⟩ (.slice a1 ds.length c1)) a1 ds (fun b => w.heap.size + 2 ≤ b ∧ b < w1.heap.size)) := OwnP.out HG1.out (G := fun b => b = w.heap.size) ((Out.refl _ _).set (F := fun b => b = w.heap.size) rfl _ _) (fun b hb' e => by have := hb'.1; omega)
  clear hb hd
  obtain ⟨b0, b1, b2, b3, b4, b5, b6, b7⟩ := box8 HT1.out.par
  obtain ⟨f0, f1, f2, f3, f4, f5, f6, f7⟩ := box_froz HT1.out.par
  go_wp2_with fail
  refine (clone_attr aa ats ac _ (HA.out.below (Nat.le_refl _) HT2.out.bel) HZA.out).mono ?_
  rintro e w2 ⟨⟨a2, c2, rfl, hd⟩, hb⟩
  have HT3 : Hid _ := HT2.out.below hb
  have HS2 : Hid (w1.heap.size ≤ w2.heap.size) := by have := hb.size; rw [size_setCell] at this; exact this
  have HA1 : Hid (OwnA w2 a2 ats (fun b => w1.heap.size ≤ b ∧ b < w2.heap.size)) := OwnA.sub hd (fun b hb' => ⟨by have := hb'.1; rw [size_setCell] at this; exact this, hb'.2⟩)
  have HG3 : Hid (OwnP w2 a1 ds (fun b => w.heap.size + 2 ≤ b ∧ b < w1.heap.size)) := OwnP.out HG2.out (G := fun _ => False) (Out.of_below hb) (none_apart _)
  have HT4 : Hid _ := HT3.out.set 5 (.slice a2 ats.length c2)
  have HG4 : Hid (OwnP (w2.setCell ⟨w.heap.size, 5, none⟩ (.slice a2 ats.length c2)) a1 ds (fun b => w.heap.size + 2 ≤ b ∧ b < w1.heap.size)) := OwnP.out HG3.out (G := fun b => b = w.heap.size) ((Out.refl _ _).set (F := fun b => b = w.heap.size) rfl _ _) (fun b hb' e => by have := hb'.1; omega)
  have HA2 : Hid (OwnA (w2.setCell ⟨w.heap.size, 5, none⟩ (.slice a2 ats.length c2)) a2 ats (fun b => w1.heap.size ≤ b ∧ b < w2.heap.size)) := OwnA.out HA1.out (G := fun b => b = w.heap.size) ((Out.refl _ _).set (F := fun b => b = w.heap.size) rfl _ _) (fun b hb' e => by have := hb'.1; have := HT1.out.size; omega)
  clear hb hd b0 b1 b2 b3 b4 b5 b6 b7 f0 f1 f2 f3 f4 f5 f6 f7
  obtain ⟨b0, b1, b2, b3, b4, b5, b6, b7⟩ := box8 HT3.out.par
  obtain ⟨f0, f1, f2, f3, f4, f5, f6, f7⟩ := box_froz HT3.out.par
  go_wp2_with fail
  refine (clone_node B ka ks kc w _ HT4.out.bel HK.out HZL.out).mono ?_
  rintro e w3 ⟨⟨a3, c3, rfl, hc3, hd⟩, hb⟩
  have HC3 : Hid (ks.length ≤ c3) := hc3
  clear hc3
  have HT5 : Hid _ := HT4.out.below hb
  have HS3 : Hid (w2.heap.size ≤ w3.heap.size) := by have := hb.size; rw [size_setCell] at this; exact this
  have HG5 : Hid (OwnP w3 a1 ds (fun b => w.heap.size + 2 ≤ b ∧ b < w1.heap.size)) := OwnP.out HG4.out (G := fun _ => False) (Out.of_below hb) (none_apart _)
  have HA3 : Hid (OwnA w3 a2 ats (fun b => w1.heap.size ≤ b ∧ b < w2.heap.size)) := OwnA.out HA2.out (G := fun _ => False) (Out.of_below hb) (none_apart _)
  have HT6 : Hid _ := HT5.out.set 6 (.slice a3 ks.length c3)
  clear b0 b1 b2 b3 b4 b5 b6 b7 f0 f1 f2 f3 f4 f5 f6 f7
  obtain ⟨b0, b1, b2, b3, b4, b5, b6, b7⟩ := box8 HT5.out.par
  obtain ⟨f0, f1, f2, f3, f4, f5, f6, f7⟩ := box_froz HT5.out.par
  obtain ⟨W4, hW4⟩ : ∃ W4, w3.setCell ⟨w.heap.size, 6, none⟩ (.slice a3 ks.length c3) = W4 := ⟨_, rfl⟩
  by_cases h0 : 0 < ks.length
  · obtain ⟨g, cur, ty, H, rfl, hg, hH, hrow⟩ := hd h0
    rw [size_setCell] at hg
    have hgs : g < w3.heap.size := pairs.lt_heap hrow.blk
    have HR4 : Hid (RowC W4 g ks.length ks H (fun _ _ => False) 0 cur ty) := hW4 ▸ hrow.set_other (by have := HT4.out.size; rw [size_setCell] at this; omega)
    have HGG : Hid (w2.heap.size ≤ g) := hg
    have HH : Hid (∀ i, i < ks.length → NodeIn w B (kid ks i) (H i)) := hH
    rw [hW4] at HT6
    have HG6 : Hid (OwnP W4 a1 ds (fun b => w.heap.size + 2 ≤ b ∧ b < w1.heap.size)) := hW4 ▸ OwnP.out HG5.out (G := fun b => b = w.heap.size) ((Out.refl _ _).set (F := fun b => b = w.heap.size) rfl _ _) (fun b hb' e => by have := hb'.1; omega)
    have HA4 : Hid (OwnA W4 a2 ats (fun b => w1.heap.size ≤ b ∧ b < w2.heap.size)) := hW4 ▸ OwnA.out HA3.out (G := fun b => b = w.heap.size) ((Out.refl _ _).set (F := fun b => b = w.heap.size) rfl _ _) (fun b hb' e => by have := hb'.1; have := HT1.out.size; omega)
    have HZ2 : Hid (w.heap.size + 2 ≤ w1.heap.size) := HT1.out.size
    have q6 := (box8 HT6.out.par).2.2.2.2.2.2.1
    clear hd hb hH hrow hg hgs
    go_wp2_with fail
    go_loopw [20] (fun t wr => ∃ (i : Nat) (cu : Array Value) (G : Nat → Bset), i ≤ ks.length ∧ t = .int .i64 i ∧ Hid (RowC wr g ks.length ks H G i cu ty) ∧ Hid (∀ j, i ≤ j → ∀ b, ¬ G j b) ∧ Hid (Out (fun b => b = g) W4 wr)) (fun t _ => ks.length - (intOf t).toNat)
    case atStart => exact ⟨0, cur, fun _ _ => False, Nat.zero_le _, rfl, HR4, fun j _ b hb => hb, Out.refl _ _⟩
    case round =>
      obtain ⟨i, cu, G, hi, rfl, hR, hGe, hO⟩ := hrel
      have HTr : Hid _ := HT6.out.out hO.out (fun b hb => by have := HGG.out; have := HZ2.out; have := HS2.out; omega)
      by_cases hlt : i < ks.length
      · obtain ⟨z0, z1, z2, z3, z4, z5, z6, z7⟩ := hR.out.cells hlt
        have hE := fun W (hW : Below wr.heap.size wr W) => HIH.out (kid ks i) (H i) W (HKT.out i hlt) (by have h1 := nsz_kid ks i hlt; have h2 := HZK.out; omega) ((HH.out i hlt).below (HTr.out.bel.trans (hW.mono HTr.out.bel.size)))
        unfold CopyOk at hE
        unfold vals at hE
        obtain ⟨y, hy⟩ : ∃ y, y = kid ks i := ⟨_, rfl⟩
        have HY : Hid _ := hy
        rw [← hy] at z0 z1 z2 z3 z4 z5 z6 z7 hE
        have HE : Hid (∀ W, Below wr.heap.size wr W → _) := hE
        clear hE hy q6
        go_wp2_with fail
        obtain ⟨o8, ho8⟩ : ∃ o8, Obj.cells #[.int .i64 y.kind, .string y.pre, .string y.loc, .string y.uri, .slice (H i).da y.ds.length (H i).dc, .slice (H i).aa y.ats.length (H i).ac, .slice (H i).ka y.kids.length (H i).kc, .string y.text] 28 = o8 := ⟨_, rfl⟩
        have HBo : Hid (Below wr.heap.size wr (wr.alloc o8)) := (Below.refl _ _).alloc (Nat.le_refl _) o8
        have x8 : (wr.alloc o8).heap[wr.heap.size]? = some o8 := heap_alloc_new wr o8
        rw [← ho8] at x8
        obtain ⟨x0, x1, x2, x3, x4, x5, x6, x7⟩ := box8 x8
        rw [ho8] at x0 x1 x2 x3 x4 x5 x6 x7
        have q6 := (box8 (HTr.out.below HBo.out).par).2.2.2.2.2.2.1
        have HBd : Hid (Below wr.heap.size wr (wr.alloc o8).drew) := HBo.out.drew
        have HKG : Hid (∀ j, Inc (G j) (fun b => g < b ∧ b < wr.heap.size)) := hR.out.rng
        have hgw : g < wr.heap.size := pairs.lt_heap hR.out.blk
        rw [ho8]
        clear z0 z1 z2 z3 z4 z5 z6 z7 x8
        go_region_with (go_at_call 52; refine Calls.mono (HE.out _ HBd.out) ?_; rintro e w6 ⟨⟨h', rfl, hn6⟩, hb6⟩; have HB6 : Hid (Below wr.heap.size wr w6) := HBd.out.trans (hb6.mono HBd.out.size); have HN6 : Hid (OwnN w6 y h' (fun b => wr.heap.size ≤ b ∧ b < w6.heap.size)) := hn6.sub (fun b hb => ⟨Nat.le_trans HBd.out.size hb.1, hb.2⟩); have HR6 : Hid _ := hR.out.below HB6.out; clear hn6 hb6; obtain ⟨z0, z1, z2, z3, z4, z5, z6, z7⟩ := HR6.out.cells hlt; have fz := HR6.out.froz; have q6' := (box8 (HTr.out.below HB6.out).par).2.2.2.2.2.2.1)
        all_goals go_wp2
        all_goals refine ⟨⟨i + 1, _, fun j => if j = i then (fun b => wr.heap.size ≤ b ∧ b < w6.heap.size) else G j, by omega, by go_num, HR6.out.next hlt HY.out HN6.out (fun b hb => ⟨Nat.lt_of_lt_of_le hgw hb.1, hb.2⟩) (fun j b hb hc => by have := (HKG.out j b hb).2; have := hc.1; omega) (fun j hj b hb => hGe.out j hj b hb), ?_, ?_⟩, ?_⟩
        all_goals first
          | (show ∀ j, i + 1 ≤ j → ∀ b, ¬ _; intro j hj b hb; rw [if_neg (by omega)] at hb; exact hGe.out j (by omega) b hb)
          | exact ((((((((hO.out.trans (Out.of_below HB6.out)).set (F := fun b => b = g) rfl _ _).set (F := fun b => b = g) rfl _ _).set (F := fun b => b = g) rfl _ _).set (F := fun b => b = g) rfl _ _).set (F := fun b => b = g) rfl _ _).set (F := fun b => b = g) rfl _ _).set (F := fun b => b = g) rfl _ _).set (F := fun b => b = g) rfl _ _
          | (simp [intOf]; omega)
      · obtain rfl : i = ks.length := by omega
        clear q6
        obtain ⟨b0, b1, b2, b3, b4, b5, b6, b7⟩ := box8 HTr.out.par
        obtain ⟨f0, f1, f2, f3, f4, f5, f6, f7⟩ := box_froz HTr.out.res
        obtain ⟨r0, r1, r2, r3, r4, r5, r6, r7⟩ := box8 HTr.out.res
        go_wp2_with fail
        refine bodyPost_ret (by simp [results, Try.results52, go_sem, r0, r1, r2, r3, r4, r5, r6, r7]; try rfl) rfl ?_
        refine ⟨⟨⟨a1, c1, a2, c2, some ⟨g, 0, none⟩, c3⟩, rfl, ?_⟩, out8.below HTr.out.bel (fun b e => by omega) HTr.out.bel.size⟩
        have hgw : g < wr.heap.size := pairs.lt_heap hR.out.blk
        exact copy_end (W := wr) (s1 := w1.heap.size) (s2 := w2.heap.size) ⟨HFT.out, HC3.out⟩ HPF.out (HG6.out.out hO.out (fun b hb e => by have := hb.2; have := HS2.out; have := HGG.out; omega)) (HA4.out.out hO.out (fun b hb e => by have := hb.2; have := HGG.out; omega)) (hR.out.own.sub (fun b hb => ⟨Nat.le_trans HGG.out hb.1, hb.2⟩)) HZ2.out HS2.out (by have := HGG.out; omega) out8
  · have HZ2 : Hid (w.heap.size + 2 ≤ w1.heap.size) := HT1.out.size
    rw [hW4] at HT6
    have HS4 : Hid (W4.heap.size = w3.heap.size) := by rw [← hW4]; exact size_setCell _ _ _ _
    have HG6 : Hid (OwnP W4 a1 ds (fun b => w.heap.size + 2 ≤ b ∧ b < w1.heap.size)) := hW4 ▸ OwnP.out HG5.out (G := fun b => b = w.heap.size) ((Out.refl _ _).set (F := fun b => b = w.heap.size) rfl _ _) (fun b hb' e => by have := hb'.1; omega)
    have HA4 : Hid (OwnA W4 a2 ats (fun b => w1.heap.size ≤ b ∧ b < w2.heap.size)) := hW4 ▸ OwnA.out HA3.out (G := fun b => b = w.heap.size) ((Out.refl _ _).set (F := fun b => b = w.heap.size) rfl _ _) (fun b hb' e => by have := hb'.1; have := HT1.out.size; omega)
    have q6 := (box8 HT6.out.par).2.2.2.2.2.2.1
    clear hd hb
    go_wp2_with fail
    go_loopw [20] (fun t wr => t = .int .i64 0 ∧ wr = W4) (fun t _ => 0)
    case atStart => exact ⟨rfl, rfl⟩
    case round =>
      obtain ⟨rfl, rfl⟩ := hrel
      clear q6 b0 b1 b2 b3 b4 b5 b6 b7 f0 f1 f2 f3 f4 f5 f6 f7
      obtain ⟨b0, b1, b2, b3, b4, b5, b6, b7⟩ := box8 HT6.out.par
      obtain ⟨f0, f1, f2, f3, f4, f5, f6, f7⟩ := box_froz HT6.out.res
      obtain ⟨r0, r1, r2, r3, r4, r5, r6, r7⟩ := box8 HT6.out.res
      have hl0 : ((ks.length : Nat) : Int) = 0 := by omega
      go_wp2_with fail
      refine bodyPost_ret (by simp [results, Try.results52, go_sem, r0, r1, r2, r3, r4, r5, r6, r7]; try rfl) rfl ?_
      refine ⟨⟨⟨a1, c1, a2, c2, a3, c3⟩, rfl, ?_⟩, out8.below HT6.out.bel (fun b e => by omega) HT6.out.bel.size⟩
      exact copy_end (s1 := w1.heap.size) (s2 := w2.heap.size) ⟨HFT.out, HC3.out⟩ HPF.out HG6.out HA4.out (fun h => absurd h h0) HZ2.out HS2.out (by have := HS3.out; have := HS4.out; omega) out8
theorem copy_node (B : Nat) : ∀ n, ∀ (t : Tree) (h : Hdr) (w : World), tsize t < n → nsz t ≤ 1048576 → NodeIn w B t h → CopyOk 52 t h w
  | 0, t, h, w, ht, _, _ => by omega
  | n + 1, t, h, w, ht, hz, hn => copy_node_of n B (fun t h w ht hz hn => copy_node B n t h w ht hz hn) t h w (by omega) hz hn
end Go.Proofs.Ytpejcblmglbjfaa.trees
