/-
  What the program's map of what stands for what means, and what EntsOk answers: the same as the specification's.
-/
import Derived.Test.YtekbpekfomblbaaGreatDoorRef3
import Derived.Test.YtekbpekfomblbaaGreatDoorTextMap
import Derived.Test.YtekbpekfomblbaaGreatDoorFixedAtEnt
import Derived.Test.YtekbpekfomblbaaGreatDoorImplNames
import Derived.Test.YtekbpekfomblbaaGreatDoorScan
import Derived.OwnWalk
namespace Go.Proofs.YtekbpekfomblbaaGreatDoor.refs
open Go.ChangeShapes Go.WideShapes Go.ChangeAt Go.RowKit
open pairs (Pair at0 PairsAt TableAt)
open tmaps (MapAt Meaning putM delM)
set_option linter.unusedVariables false
def fixedL : List Pair := [(⟨#[108, 116]⟩, ⟨#[60]⟩), (⟨#[103, 116]⟩, ⟨#[62]⟩), (⟨#[97, 109, 112]⟩, ⟨#[38]⟩), (⟨#[97, 112, 111, 115]⟩, ⟨#[39]⟩), (⟨#[113, 117, 111, 116]⟩, ⟨#[34]⟩)]
def putTo (M : Meaning) (L : List Pair) : Nat → Meaning
  | 0 => M
  | k + 1 => putM (putTo M L k) (at0 L k).1 (at0 L k).2
def delTo (M : Meaning) (L : List Pair) : Nat → Meaning
  | 0 => M
  | k + 1 => delM (delTo M L k) (at0 L k).1
def fixM : Meaning := putTo (fun _ => none) fixedL 5
def entM (L : List Pair) : Meaning := putTo fixM L L.length
structure MRel (w wr : World) (B n : Nat) (M : Meaning) : Prop where
  map : MapAt Tryz.prog wr B n M
  bel : Below B w wr
theorem MRel.put {w wr w2 : World} {B n : Nat} {M M' : Meaning} {o : Obj} (h : MRel w wr B n M) (hm : MapAt Tryz.prog w2 B (n + 1) M') (hg : (wr.alloc o).grownBy w2 (some B)) : MRel w w2 B (n + 1) M' :=
  ⟨hm, tmaps.below_turned (h.bel.alloc (Nat.le_of_lt h.map.lt) o) (Nat.le_refl _) (Nat.lt_of_lt_of_le h.map.lt (by simp)) hg⟩
theorem MRel.del {w wr w2 : World} {B n : Nat} {M M' : Meaning} {o : Obj} (h : MRel w wr B n M) (hm : MapAt Tryz.prog w2 B n M') (hg : (wr.alloc o).grownBy w2 (some B)) : MRel w w2 B n M' :=
  ⟨hm, tmaps.below_turned (h.bel.alloc (Nat.le_of_lt h.map.lt) o) (Nat.le_refl _) (Nat.lt_of_lt_of_le h.map.lt (by simp)) hg⟩
set_option maxRecDepth 100000 in
set_option maxHeartbeats 4000000 in
theorem impl_entMap (a : Option Addr) (L : List Pair) (cap : Nat) (w : World) (hF : Hid (TableAt w 0 fixedL)) (hL : Hid (PairsAt w a L)) (hl : L.length ≤ 4) :
    Calls Tryz.prog 32 #[.slice a L.length cap] w fun e w' => e = .returned (.map (some w.heap.size)) ∧ MapAt Tryz.prog w' w.heap.size (5 + L.length) (entM L) ∧ Below w.heap.size w w' := by
  have hmm := @run_makeMap Tryz.prog
  obtain ⟨fa, fc, f1, f2, f3⟩ := hF.out
  obtain ⟨fb, fo, rfl, f4, f5⟩ := f3.row (by decide)
  have ft := f3.texts
  have f1' : w.cell? ⟨0, 0, none⟩ = some (.slice (some ⟨fb, fo, none⟩) 5 fc) := f1
  have fl : fixedL.length = 5 := rfl
  have HC : Hid (∀ W, Below w.heap.size w W → ∀ k, k < 5 → W.cell? ⟨fb, fo + k * 2, none⟩ = some (.string (at0 fixedL k).1) ∧ W.cell? ⟨fb, fo + k * 2 + 1, none⟩ = some (.string (at0 fixedL k).2)) := fun W h k hk =>
    ⟨(h.cell (p := ⟨fb, fo + k * 2, none⟩) f4).trans (f5 k hk).1, (h.cell (p := ⟨fb, fo + k * 2 + 1, none⟩) f4).trans (f5 k hk).2⟩
  have HFT : Hid _ := ft
  clear f5 ft f1 f3
  go_enter Tryz.func32, Tryz.ntmps32
  go_wp2
  go_loopw [11] (fun t wr => ∃ k : Nat, k ≤ 5 ∧ t = .int .i64 k ∧ Hid (MRel w wr w.heap.size k (putTo (fun _ => none) fixedL k))) (fun t _ => 5 - (intOf t).toNat)
  case atStart => exact ⟨0, by omega, rfl, ⟨MapAt.made _ w, (Below.refl _ _).alloc (Nat.le_refl _) _⟩⟩
  case round =>
    obtain ⟨k, hk, rfl, hR⟩ := hrel
    by_cases hlt : k < 5
    · obtain ⟨c1, c2⟩ := HC.out wr hR.out.bel k hlt
      obtain ⟨z1, z2⟩ := HFT.out k hlt
      have hN : Hid (putTo (fun _ => none) fixedL (k + 1) = putM (putTo (fun _ => none) fixedL k) (at0 fixedL k).1 (at0 fixedL k).2) := rfl
      obtain ⟨n, en⟩ : ∃ n, n = (at0 fixedL k).1 := ⟨_, rfl⟩
      obtain ⟨v, ev⟩ : ∃ v, v = (at0 fixedL k).2 := ⟨_, rfl⟩
      rw [← en] at c1 hN z1
      rw [← ev] at c2 hN
      have HZ1 : Hid _ := z1
      clear en ev z1 z2
      go_wp2_with (at_mapUpdate; refine tmaps.wp_put _ Tryz.underlying9 rfl _ _ _ 64 63 rfl Tryz.underlying64 w.heap.size k _ rfl (hR.out.map.kept (World.grownBy_alloc _ _ none) (by simp)) (by omega) n n v rfl HZ1.out rfl ?_; intro w2 hm2 hg2)
      have HR2 : Hid _ := hR.out.put hm2 hg2
      clear hm2 hg2
      go_wp2
      go_roundw
      case rel => exact ⟨k + 1, by omega, by go_num, by rw [hN.out]; exact HR2.out⟩
      case measure => simp [intOf]; omega
    · have h5 : (Value.int .i64 (k : Int)) = .int .i64 5 := by rw [show k = 5 by omega]; rfl
      have hR : Hid (MRel w wr w.heap.size 5 fixM) := by have e : k = 5 := by omega
                                                         rw [e] at hR; exact hR
      rw [h5]
      clear h5 hk hlt
      have HL : Hid _ := hL.out.short
      go_wp2
      go_loopw [22] (fun t wr => ∃ k : Nat, k ≤ L.length ∧ t = .int .i64 k ∧ Hid (MRel w wr w.heap.size (5 + k) (putTo fixM L k))) (fun t _ => L.length - (intOf t).toNat)
      case atStart => exact ⟨0, by omega, rfl, hR⟩
      case round =>
        obtain ⟨k, hk, rfl, hR⟩ := hrel
        by_cases hlt : k < L.length
        · obtain ⟨b, off, ha, hblt, hc⟩ := hL.out.row (by omega)
          obtain ⟨z1, z2⟩ := hL.out.texts k hlt
          have c1 := (hR.out.bel.cell (p := ⟨b, off + k * 2, none⟩) hblt).trans (hc k hlt).1
          have c2 := (hR.out.bel.cell (p := ⟨b, off + k * 2 + 1, none⟩) hblt).trans (hc k hlt).2
          have hN : Hid (putTo fixM L (k + 1) = putM (putTo fixM L k) (at0 L k).1 (at0 L k).2) := rfl
          obtain ⟨n, en⟩ : ∃ n, n = (at0 L k).1 := ⟨_, rfl⟩
          obtain ⟨v, ev⟩ : ∃ v, v = (at0 L k).2 := ⟨_, rfl⟩
          rw [← en] at c1 hN z1
          rw [← ev] at c2 hN
          have HZ1 : Hid _ := z1
          subst ha
          clear en ev z1 z2 hc
          go_wp2_with (at_mapUpdate; refine tmaps.wp_put _ Tryz.underlying9 rfl _ _ _ 64 63 rfl Tryz.underlying64 w.heap.size (5 + k) _ rfl (hR.out.map.kept (World.grownBy_alloc _ _ none) (by simp)) (by omega) n n v rfl HZ1.out rfl ?_; intro w2 hm2 hg2)
          have HR2 : Hid _ := hR.out.put hm2 hg2
          clear hm2 hg2
          go_wp2
          go_roundw
          case rel => exact ⟨k + 1, by omega, by go_num, by rw [hN.out]; exact HR2.out⟩
          case measure => simp [intOf]; omega
        · obtain rfl : k = L.length := by omega
          go_wp2
          go_ret
          exact ⟨rfl, hR.out.map, hR.out.bel⟩
/-! ### What is no more -/
theorem putTo_hit {M : Meaning} {L : List Pair} {x : ByteArray} : ∀ {k j : Nat}, j < k → (at0 L j).1 = x → (putTo M L k x).isSome = true
  | 0, j, h, _ => by omega
  | k + 1, j, h, e => by
    rw [putTo]
    unfold putM
    by_cases h1 : x = (at0 L k).1
    · rw [if_pos h1]; rfl
    · rw [if_neg h1]
      by_cases h2 : j = k
      · subst h2; exact absurd e.symm h1
      · exact putTo_hit (j := j) (by omega) e
theorem putTo_miss {M : Meaning} {L : List Pair} {x : ByteArray} : ∀ {k : Nat}, (∀ j, j < k → (at0 L j).1 ≠ x) → putTo M L k x = M x
  | 0, _ => rfl
  | k + 1, h => by
    rw [putTo]
    unfold putM
    rw [if_neg (fun e => h k (by omega) e.symm), putTo_miss (fun j hj => h j (by omega))]
theorem delTo_hit {M : Meaning} {L : List Pair} {x : ByteArray} : ∀ {k j : Nat}, j < k → (at0 L j).1 = x → delTo M L k x = none
  | 0, j, h, _ => by omega
  | k + 1, j, h, e => by
    rw [delTo]
    unfold delM
    by_cases h1 : x = (at0 L k).1
    · rw [if_pos h1]
    · rw [if_neg h1]
      by_cases h2 : j = k
      · subst h2; exact absurd e.symm h1
      · exact delTo_hit (j := j) (by omega) e
theorem delTo_miss {M : Meaning} {L : List Pair} {x : ByteArray} : ∀ {k : Nat}, (∀ j, j < k → (at0 L j).1 ≠ x) → delTo M L k x = M x
  | 0, _ => rfl
  | k + 1, h => by
    rw [delTo]
    unfold delM
    rw [if_neg (fun e => h k (by omega) e.symm), delTo_miss (fun j hj => h j (by omega))]
def freeM (L : List Pair) : Meaning := delTo (entM L) fixedL 5
theorem list_eq {s : ByteArray} {a : Array UInt8} (h : (s.toList == a.toList) = true) : s = ⟨a⟩ := by
  rw [beq_iff_eq, ByteArray.toList_eq] at h
  exact ByteArray.ext (Array.toList_inj.1 h)
theorem list_ne {s : ByteArray} {a : Array UInt8} (h : ¬ (s.toList == a.toList) = true) : (⟨a⟩ : ByteArray) ≠ s := fun e => h (by rw [← e, ByteArray.toList_eq]; exact beq_self_eq_true _)
theorem empty_of {s : ByteArray} (h : s.size = 0) : s.toList.isEmpty = true := names.isEmpty_of h
theorem known_yes {s : ByteArray} (h : (known s).toList.isEmpty = false) : ∃ j, j < 5 ∧ (at0 fixedL j).1 = s := by
  unfold known at h
  by_cases h0 : (s.toList == [108, 116]) = true
  · exact ⟨0, by omega, (list_eq (a := #[108, 116]) h0).symm⟩
  rw [if_neg h0] at h
  by_cases h1 : (s.toList == [103, 116]) = true
  · exact ⟨1, by omega, (list_eq (a := #[103, 116]) h1).symm⟩
  rw [if_neg h1] at h
  by_cases h2 : (s.toList == [97, 109, 112]) = true
  · exact ⟨2, by omega, (list_eq (a := #[97, 109, 112]) h2).symm⟩
  rw [if_neg h2] at h
  by_cases h3 : (s.toList == [97, 112, 111, 115]) = true
  · exact ⟨3, by omega, (list_eq (a := #[97, 112, 111, 115]) h3).symm⟩
  rw [if_neg h3] at h
  by_cases h4 : (s.toList == [113, 117, 111, 116]) = true
  · exact ⟨4, by omega, (list_eq (a := #[113, 117, 111, 116]) h4).symm⟩
  rw [if_neg h4, empty_of rfl] at h
  cases h
theorem known_at {s : ByteArray} {j : Nat} (hj : j < 5) (e : (at0 fixedL j).1 = s) : known s = (at0 fixedL j).2 := by
  subst e
  have h : j = 0 ∨ j = 1 ∨ j = 2 ∨ j = 3 ∨ j = 4 := by omega
  rcases h with rfl | rfl | rfl | rfl | rfl <;>
    simp [known, at0, fixedL, ByteArray.toList_eq]
theorem known_no {s : ByteArray} (h : (known s).toList.isEmpty = true) : ∀ j, j < 5 → (at0 fixedL j).1 ≠ s := fun j hj e => by
  rw [known_at hj e] at h
  have h' : j = 0 ∨ j = 1 ∨ j = 2 ∨ j = 3 ∨ j = 4 := by omega
  rcases h' with rfl | rfl | rfl | rfl | rfl <;> simp [at0, fixedL, ByteArray.toList_eq] at h
theorem uniq_iff {L : List Pair} {i : Nat} : uniq L i = true ↔ ∀ k, k < i → (at0 L k).1 ≠ (at0 L i).1 := by
  constructor
  · intro h k hk e
    have := List.all_eq_true.1 h k (List.mem_range.2 hk)
    rw [e] at this
    simp at this
  · intro h
    refine uniq_yes fun k hk => ?_
    by_cases e : ((at0 L k).1.toList == (at0 L i).1.toList) = true
    · exfalso
      rw [beq_iff_eq, ByteArray.toList_eq, ByteArray.toList_eq] at e
      exact h k hk (pairs.data_inj e)
    · simpa using e
/-- A name is still there just if it is none of the five and none ahead has it. -/
theorem free_at {L : List Pair} {i : Nat} (hi : i < L.length) : (delTo (freeM L) L i (at0 L i).1).isSome = ((known (at0 L i).1).toList.isEmpty && uniq L i) := by
  cases hu : uniq L i
  · have : ¬ ∀ k, k < i → (at0 L k).1 ≠ (at0 L i).1 := fun h => by rw [uniq_iff.2 h] at hu; cases hu
    obtain ⟨k, hk, e⟩ : ∃ k, k < i ∧ (at0 L k).1 = (at0 L i).1 := Classical.byContradiction fun hn => this fun k hk e => hn ⟨k, hk, e⟩
    rw [delTo_hit hk e, Bool.and_false]
    rfl
  · rw [delTo_miss (uniq_iff.1 hu), Bool.and_true]
    unfold freeM
    cases hk : (known (at0 L i).1).toList.isEmpty
    · obtain ⟨j, hj, e⟩ := known_yes hk
      rw [delTo_hit hj e]
      rfl
    · rw [delTo_miss (known_no hk)]
      exact putTo_hit hi rfl
theorem good_of {L : List Pair} {i : Nat} (h1 : (known (at0 L i).1).toList.isEmpty = true) : good L i = (names.plainB (at0 L i).1 && (decide ((at0 L i).2.size ≤ 600) && scans.signs (at0 L i).2)) := by
  unfold good
  rw [h1, Bool.true_and]
theorem cell_same {w w' : World} {b i : Nat} (h : w'.heap[b]? = w.heap[b]?) : w'.cell? ⟨b, i, none⟩ = w.cell? ⟨b, i, none⟩ := by simp [World.cell?, h]
/-- What the tables and the five entries are. -/
structure Tabs (w : World) : Prop where
  utf : scans.Tabs w
  sign : ∃ b off cap, spans.SpansAt w 3 spans.signL b off cap
  name : names.Tabs w
  fixed : TableAt w 0 fixedL
theorem Tabs.below {w w' : World} (h : Tabs w) (hb : Below w.heap.size w w') : Tabs w' := by
  obtain ⟨h1, ⟨b, o, c, h2⟩, h3, h4⟩ := h
  exact ⟨scans.tabs_below h1 hb, ⟨b, o, c, h2.below (Nat.le_refl _) hb⟩, h3.below hb, h4.below hb⟩
/-- Tables stay while the call's own map is written. -/
theorem Tabs.turned {B : Nat} {w w' : World} (h : Tabs w) (hB : w.heap.size = B) (hb : Below B w w') : Tabs w' := by subst hB; exact h.below hb
theorem impl_textB (s : ByteArray) (w : World) (hs : s.size ≤ maxLen) (hT : Tabs w) : Calls Tryz.prog 8 #[.string s] w fun e w' => e = .returned (.bool (textB s)) ∧ Below w.heap.size w w' := by
  obtain ⟨b, o, c, h2⟩ := hT.sign
  exact scans.impl_text s b o c w hs hT.utf h2
/-- An entry's own block keeps its two texts. -/
structure Own2 (w : World) (b : Nat) (n v : ByteArray) : Prop where
  c1 : w.cell? ⟨b, 0, none⟩ = some (.string n)
  c2 : w.cell? ⟨b, 1, none⟩ = some (.string v)
  lt : b < w.heap.size
theorem own2_new (w : World) (n v : ByteArray) (t : TypeId) : Own2 (w.alloc (.cells #[.string n, .string v] t)) w.heap.size n v := ⟨by simp, by simp, by simp⟩
theorem Own2.alloc {w : World} {b : Nat} {n v : ByteArray} (h : Own2 w b n v) (o : Obj) : Own2 (w.alloc o) b n v := by
  have hb := Lib.alloc_old w o b h.lt
  exact ⟨(cell_same hb).trans h.c1, (cell_same hb).trans h.c2, Nat.lt_of_lt_of_le h.lt (by simp)⟩
theorem Own2.grown {w w' : World} {b g : Nat} {n v : ByteArray} (h : Own2 w b n v) (hg : w.grownBy w' (some g)) (hne : b ≠ g) : Own2 w' b n v := by
  have hb := hg.block b h.lt (fun e => hne (Option.some.inj e))
  exact ⟨(cell_same hb).trans h.c1, (cell_same hb).trans h.c2, Nat.lt_of_lt_of_le h.lt hg.size⟩
theorem Own2.below {w w' : World} {b : Nat} {n v : ByteArray} (h : Own2 w b n v) (hb : Below w.heap.size w w') : Own2 w' b n v := by
  have hb' := hb.block b h.lt
  exact ⟨(cell_same hb').trans h.c1, (cell_same hb').trans h.c2, Nat.lt_of_lt_of_le h.lt hb.size⟩
theorem MRel.alloc {w wr : World} {B n : Nat} {M : Meaning} (h : MRel w wr B n M) (o : Obj) : MRel w (wr.alloc o) B n M := ⟨h.map.kept (World.grownBy_alloc _ _ none) (by simp), h.bel.alloc (Nat.le_of_lt h.map.lt) o⟩
theorem MRel.del2 {w wr w2 : World} {B n : Nat} {M M' : Meaning} (h : MRel w wr B n M) (hm : MapAt Tryz.prog w2 B n M') (hg : wr.grownBy w2 (some B)) : MRel w w2 B n M' := ⟨hm, tmaps.below_turned h.bel (Nat.le_refl _) h.map.lt hg⟩
theorem MRel.below {w wr w2 : World} {B n : Nat} {M : Meaning} (h : MRel w wr B n M) (hb : Below wr.heap.size wr w2) : MRel w w2 B n M := ⟨h.map.below hb, h.bel.trans (hb.mono (Nat.le_of_lt h.map.lt))⟩
set_option maxRecDepth 100000 in
set_option maxHeartbeats 8000000 in
theorem impl_ents (a : Option Addr) (L : List Pair) (cap : Nat) (w : World) (hT : Tabs w) (hL : PairsAt w a L) : Calls Tryz.prog 21 #[.slice a L.length cap] w fun e w' => e = .returned (.bool (entsB L)) ∧ Below w.heap.size w w' := by
  have HT : Hid (Tabs w) := hT
  have HL : Hid (PairsAt w a L) := hL
  have hlen := hL.short
  unfold maxLen at hlen
  have hz : ∀ w, (zeroValue 63).run Tryz.prog w = .ok (.agg #[.string ⟨#[]⟩, .string ⟨#[]⟩]) w := Tryz.zeroValue63
  by_cases h4 : L.length ≤ 4
  · have hl : (L.length : Int) ≤ 4 := by omega
    have HE : Hid _ := impl_entMap a L cap w hT.fixed hL h4
    obtain ⟨fa, fc, f1, f2, f3⟩ := hT.fixed
    obtain ⟨fb, fo, rfl, f4, f5⟩ := f3.row (by decide)
    have ft := f3.texts
    have f1' : w.cell? ⟨0, 0, none⟩ = some (.slice (some ⟨fb, fo, none⟩) 5 fc) := f1
    have HG : Hid (∀ W, Below w.heap.size w W → W.cell? ⟨0, 0, none⟩ = some (.slice (some ⟨fb, fo, none⟩) 5 fc)) := fun W h => (h.cell (p := ⟨0, 0, none⟩) f2).trans f1'
    have HC : Hid (∀ W, Below w.heap.size w W → ∀ k, k < 5 → W.cell? ⟨fb, fo + k * 2, none⟩ = some (.string (at0 fixedL k).1) ∧ W.cell? ⟨fb, fo + k * 2 + 1, none⟩ = some (.string (at0 fixedL k).2)) := fun W h k hk =>
      ⟨(h.cell (p := ⟨fb, fo + k * 2, none⟩) f4).trans (f5 k hk).1, (h.cell (p := ⟨fb, fo + k * 2 + 1, none⟩) f4).trans (f5 k hk).2⟩
    have HFT : Hid _ := ft
    clear f5 ft f1 f3 f1' hT hL
    go_enter Tryz.func21, Tryz.ntmps21
    go_wp2_with fail
    refine Calls.mono HE.out ?_
    rintro e w1 ⟨rfl, hm1, hb1⟩
    have HR : Hid (MRel w w1 w.heap.size (5 + L.length) (entM L)) := ⟨hm1, hb1⟩
    have g1 := HG.out w1 hb1
    clear hm1 hb1 HE
    go_wp2
    clear g1
    go_loopw [17] (fun t wr => ∃ k : Nat, k ≤ 5 ∧ t = .int .i64 k ∧ Hid (MRel w wr w.heap.size (5 + L.length) (delTo (entM L) fixedL k))) (fun t _ => 5 - (intOf t).toNat)
    case atStart => exact ⟨0, by omega, rfl, HR.out⟩
    case round =>
      obtain ⟨k, hk, rfl, hR⟩ := hrel
      by_cases hlt : k < 5
      · obtain ⟨c1, c2⟩ := HC.out wr hR.out.bel k hlt
        obtain ⟨z1, z2⟩ := HFT.out k hlt
        have hN : Hid (delTo (entM L) fixedL (k + 1) = delM (delTo (entM L) fixedL k) (at0 fixedL k).1) := rfl
        obtain ⟨n, en⟩ : ∃ n, n = (at0 fixedL k).1 := ⟨_, rfl⟩
        obtain ⟨v, ev⟩ : ∃ v, v = (at0 fixedL k).2 := ⟨_, rfl⟩
        rw [← en] at c1 hN z1
        rw [← ev] at c2
        have HZ1 : Hid _ := z1
        clear en ev z1 z2
        go_wp2_with (at_delete; refine tmaps.wp_del _ Tryz.underlying9 rfl _ _ 64 63 rfl Tryz.underlying64 w.heap.size (5 + L.length) _ rfl (hR.out.map.kept (World.grownBy_alloc _ _ none) (by simp)) n rfl HZ1.out ?_; intro w2 hm2 hg2)
        have HR2 : Hid _ := hR.out.del hm2 hg2
        clear hm2 hg2
        go_wp2
        go_roundw
        case rel => exact ⟨k + 1, by omega, by go_num, by rw [hN.out]; exact HR2.out⟩
        case measure => simp [intOf]; omega
      · have h5 : (Value.int .i64 (k : Int)) = .int .i64 5 := by rw [show k = 5 by omega]; rfl
        have hR : Hid (MRel w wr w.heap.size (5 + L.length) (freeM L)) := by have e : k = 5 := by omega
                                                                             rw [e] at hR; exact hR
        rw [h5]
        clear h5 hk hlt HC HFT HG HR
        go_wp2
        go_loopw [27] (fun t wr => ∃ i : Nat, i ≤ L.length ∧ t = .int .i64 i ∧ Hid (∀ j, j < i → (good L j && uniq L j) = true) ∧ Hid (MRel w wr w.heap.size (5 + L.length) (delTo (freeM L) L i))) (fun t _ => L.length - (intOf t).toNat)
        case atStart => exact ⟨0, by omega, rfl, fun j hj => by omega, hR⟩
        case round =>
          obtain ⟨i, hi, rfl, hup, hR⟩ := hrel
          by_cases hlt : i < L.length
          · obtain ⟨b, off, ha, hblt, hc⟩ := HL.out.row (by omega)
            obtain ⟨z1, z2⟩ := HL.out.texts i hlt
            have c1 := (hR.out.bel.cell (p := ⟨b, off + i * 2, none⟩) hblt).trans (hc i hlt).1
            have c2 := (hR.out.bel.cell (p := ⟨b, off + i * 2 + 1, none⟩) hblt).trans (hc i hlt).2
            have hN : Hid (delTo (freeM L) L (i + 1) = delM (delTo (freeM L) L i) (at0 L i).1) := rfl
            have hfree := free_at hlt
            have hno := @ents_no L i hlt
            have hgood := @good_of L i
            have hgk := @good_known L i
            obtain ⟨n, en⟩ : ∃ n, n = (at0 L i).1 := ⟨_, rfl⟩
            obtain ⟨v, ev⟩ : ∃ v, v = (at0 L i).2 := ⟨_, rfl⟩
            rw [← en] at c1 hN z1 hfree hgood hgk
            rw [← ev] at c2 z2 hgood
            have HZ1 : Hid _ := z1
            have HZ2 : Hid _ := z2
            subst ha
            clear en ev z1 z2 hc
            cases hok : (delTo (freeM L) L i n).isSome
            · have HF : Hid (entsB L = false) := by
                refine hno ?_
                rw [hok] at hfree
                cases hk : (known n).toList.isEmpty
                · rw [hgk hk]
                · rw [hk, Bool.true_and] at hfree; rw [← hfree, Bool.and_false]
              clear hfree hno hgood hgk
              go_wp2_with (at_lookup; refine tmaps.wp_look _ Tryz.underlying9 rfl _ _ 64 63 rfl Tryz.underlying64 (hz _) w.heap.size (5 + L.length) _ rfl (hR.out.map.kept (World.grownBy_alloc _ _ none) (by simp)) n rfl HZ1.out ?_; intro nm; rw [hok])
              go_ret
              exact ⟨ret_bool HF.out.symm, ((hR.out.alloc _).alloc _).bel⟩
            · rw [hok] at hfree
              obtain ⟨hk, hu⟩ : (known n).toList.isEmpty = true ∧ uniq L i = true := by
                cases hk : (known n).toList.isEmpty
                · rw [hk] at hfree; cases hfree
                · rw [hk, Bool.true_and] at hfree; exact ⟨rfl, hfree.symm⟩
              have hg := hgood hk
              have HR0 : Hid (MRel w ((wr.alloc (.cells #[.string n, .string v] 63)).alloc _) w.heap.size (5 + L.length) (delTo (freeM L) L i)) := (hR.out.alloc (.cells #[.string n, .string v] 63)).alloc (.cells #[.string n, .string v] 63)
              have HNE : Hid (wr.heap.size ≠ w.heap.size) := by show _ ≠ _; have := hR.out.map.lt; omega
              have HU : Hid _ := hu
              clear hfree hgood hgk hk hu HR0
              cases hp : names.plainB n
              · have HF : Hid (entsB L = false) := hno (by rw [hg, hp]; rfl)
                have HP : Hid (∀ w, names.Tabs w → _) := fun w h => names.impl_plain n w HZ1.out h
                rw [hp] at HP
                clear hg hno
                go_wp2_with (first
                  | (at_lookup; refine tmaps.wp_look _ Tryz.underlying9 rfl _ _ 64 63 rfl Tryz.underlying64 (hz _) w.heap.size (5 + L.length) _ rfl (hR.out.map.kept (World.grownBy_alloc _ _ none) (by simp)) n rfl HZ1.out ?_; intro nm; rw [hok])
                  | (at_delete; refine tmaps.wp_del _ Tryz.underlying9 rfl _ _ 64 63 rfl Tryz.underlying64 w.heap.size (5 + L.length) _ rfl ((hR.out.alloc _).alloc _).map n rfl HZ1.out ?_; intro w2 hm2 hg2; have o2 := ((own2_new wr n v 63).alloc _).grown hg2 HNE.out; have d1 := o2.c1; have d2 := o2.c2; have HO2 : Hid _ := o2; have HR2 : Hid _ := ((hR.out.alloc _).alloc _).del2 hm2 hg2; clear hm2 hg2 o2))
                refine (HP.out _ (HT.out.below HR2.out.bel).name).mono ?_
                rintro e w3 ⟨rfl, hb3⟩
                have HB3 : Hid _ := (HR2.out.below hb3).bel
                clear hb3
                go_wp2
                go_ret
                exact ⟨ret_bool HF.out.symm, HB3.out⟩
              · have HP : Hid (∀ w, names.Tabs w → _) := fun w h => names.impl_plain n w HZ1.out h
                rw [hp] at HP
                cases hx : textB v
                · have HF : Hid (entsB L = false) := hno (by rw [hg, hp, show (decide (v.size ≤ 600) && scans.signs v) = false from hx]; rfl)
                  have HX : Hid (∀ w, Tabs w → _) := fun w h => impl_textB v w HZ2.out h
                  rw [hx] at HX
                  clear hg hno
                  go_wp2_with (first
                    | (at_lookup; refine tmaps.wp_look _ Tryz.underlying9 rfl _ _ 64 63 rfl Tryz.underlying64 (hz _) w.heap.size (5 + L.length) _ rfl (hR.out.map.kept (World.grownBy_alloc _ _ none) (by simp)) n rfl HZ1.out ?_; intro nm; rw [hok])
                    | (at_delete; refine tmaps.wp_del _ Tryz.underlying9 rfl _ _ 64 63 rfl Tryz.underlying64 w.heap.size (5 + L.length) _ rfl ((hR.out.alloc _).alloc _).map n rfl HZ1.out ?_; intro w2 hm2 hg2; have o2 := ((own2_new wr n v 63).alloc _).grown hg2 HNE.out; have d1 := o2.c1; have d2 := o2.c2; have HO2 : Hid _ := o2; have HR2 : Hid _ := ((hR.out.alloc _).alloc _).del2 hm2 hg2; clear hm2 hg2 o2))
                  refine (HP.out _ (HT.out.below HR2.out.bel).name).mono ?_
                  rintro e w3 ⟨rfl, hb3⟩
                  have HR3 : Hid _ := HR2.out.below hb3
                  have d3 := (HO2.out.below hb3).c2
                  clear hb3
                  go_wp2_with fail
                  refine (HX.out _ (HT.out.below HR3.out.bel)).mono ?_
                  rintro e w4 ⟨rfl, hb4⟩
                  have HB4 : Hid _ := (HR3.out.below hb4).bel
                  clear hb4
                  go_wp2
                  go_ret
                  exact ⟨ret_bool HF.out.symm, HB4.out⟩
                · have HY : Hid (∀ j, j < i + 1 → (good L j && uniq L j) = true) := upto_next hup.out (by rw [hg, hp, show (decide (v.size ≤ 600) && scans.signs v) = true from hx, HU.out]; rfl)
                  have HX : Hid (∀ w, Tabs w → _) := fun w h => impl_textB v w HZ2.out h
                  rw [hx] at HX
                  clear hg hno
                  go_wp2_with (first
                    | (at_lookup; refine tmaps.wp_look _ Tryz.underlying9 rfl _ _ 64 63 rfl Tryz.underlying64 (hz _) w.heap.size (5 + L.length) _ rfl (hR.out.map.kept (World.grownBy_alloc _ _ none) (by simp)) n rfl HZ1.out ?_; intro nm; rw [hok])
                    | (at_delete; refine tmaps.wp_del _ Tryz.underlying9 rfl _ _ 64 63 rfl Tryz.underlying64 w.heap.size (5 + L.length) _ rfl ((hR.out.alloc _).alloc _).map n rfl HZ1.out ?_; intro w2 hm2 hg2; have o2 := ((own2_new wr n v 63).alloc _).grown hg2 HNE.out; have d1 := o2.c1; have d2 := o2.c2; have HO2 : Hid _ := o2; have HR2 : Hid _ := ((hR.out.alloc _).alloc _).del2 hm2 hg2; clear hm2 hg2 o2))
                  refine (HP.out _ (HT.out.below HR2.out.bel).name).mono ?_
                  rintro e w3 ⟨rfl, hb3⟩
                  have HR3 : Hid _ := HR2.out.below hb3
                  have d3 := (HO2.out.below hb3).c2
                  clear hb3
                  go_wp2_with fail
                  refine (HX.out _ (HT.out.below HR3.out.bel)).mono ?_
                  rintro e w4 ⟨rfl, hb4⟩
                  have HR4 : Hid _ := HR3.out.below hb4
                  clear hb4
                  go_wp2
                  go_roundw
                  case rel => exact ⟨i + 1, by omega, by go_num, HY, by rw [hN.out]; exact HR4.out⟩
                  case measure => simp [intOf]; omega
          · obtain rfl : i = L.length := by omega
            go_wp2
            go_ret
            exact ⟨ret_bool (by rw [ents_end hup.out, decide_eq_true hl]), hR.out.bel⟩
  · have hl : ¬ (L.length : Int) ≤ 4 := by omega
    have HF : Hid (entsB L = false) := by show _ = _; unfold entsB; rw [decide_eq_false h4, Bool.and_false]
    go_enter Tryz.func21, Tryz.ntmps21
    go_wp2
    go_ret
    exact ⟨ret_bool HF.out.symm, Below.refl _ _⟩
theorem spans_at {w : World} {name : String} {g : Nat} {D : DataW Unit} {L : List (Int × Int)} (hg : Tryz.prog.globalNamed name = some g) (ht : (Tryz.prog.globals[g]?).map (·.type) = some 95) (eD : D = spans.spanData L) (hL : L ≠ []) (hlen : L.length ≤ maxLen) (h : Lib.VarReads Tryz.prog w name D) : ∃ b off cap, spans.SpansAt w g L b off cap := by
  subst eD
  obtain ⟨g', t, cs, fuel, p, hg', ht', hv, hd⟩ := h
  obtain rfl := Option.some.inj (hg.symm.trans hg')
  obtain rfl := Option.some.inj (ht.symm.trans ht')
  exact spans.spans_of hg hv hL hlen hd
theorem table_at {w : World} {name : String} {g : Nat} {D : DataW Unit} {L : List Pair} (hg : Tryz.prog.globalNamed name = some g) (ht : (Tryz.prog.globals[g]?).map (·.type) = some 24) (eD : D = pairs.pairData L) (hL : L ≠ []) (h : Lib.VarReads Tryz.prog w name D) : TableAt w g L := by
  subst eD
  obtain ⟨g', t, cs, fuel, p, hg', ht', hv, hd⟩ := h
  obtain rfl := Option.some.inj (hg.symm.trans hg')
  obtain rfl := Option.some.inj (ht.symm.trans ht')
  exact pairs.table_of hg hv hL hd
theorem tabs_of {w : World} {D1 D2 D3 D4 D5 D6 : DataW Unit} (e1 : D1 = Lib.acceptData) (e2 : D2 = Lib.firstData) (e3 : D3 = spans.spanData spans.signL) (e4 : D4 = spans.spanData spans.startL) (e5 : D5 = spans.spanData spans.partL) (e6 : D6 = pairs.pairData fixedL)
    (h1 : Lib.VarReads Tryz.prog w "unicode/utf8.acceptRanges" D1) (h2 : Lib.VarReads Tryz.prog w "unicode/utf8.first" D2) (h3 : Lib.VarReads Tryz.prog w "loop.example/g00484/impl.signSpans" D3) (h4 : Lib.VarReads Tryz.prog w "loop.example/g00484/impl.startSpans" D4)
    (h5 : Lib.VarReads Tryz.prog w "loop.example/g00484/impl.partSpans" D5) (h6 : Lib.VarReads Tryz.prog w "loop.example/g00484/impl.fixedEnts" D6) : Tabs w :=
  ⟨scans.tabs_of e1 e2 h2 h1, scans.signs_of e3 h3, ⟨spans_at (g := 4) (by kernel_rfl) (by kernel_rfl) e4 (by decide) (by decide) h4, spans_at (g := 5) (by kernel_rfl) (by kernel_rfl) e5 (by decide) (by decide) h5⟩, table_at (g := 0) (by kernel_rfl) (by kernel_rfl) e6 (by decide) h6⟩
end Go.Proofs.YtekbpekfomblbaaGreatDoor.refs
