/-
  strings.Contains, of the program.
  (Texts of ours laid as one: ImplHas, CutsI, ImplCur, ImplRead1, ImplRead2, ImplRead3, ImplMark, ImplMarkAt.)
-/
import Derived.Test.YtekbpekfomblbaaGreatDoorNodeP
import Derived.Test.YtekbpekfomblbaaGreatDoorShapedAnd
import Derived.Lib.RabinKarpLaws
import Derived.Shelf.Strings.Search3
import Derived.Shelf.Strings.Prefix
import Derived.Test.YtekbpekfomblbaaGreatDoorSpecPart
import Derived.Test.YtekbpekfomblbaaGreatDoorImplExp
import Derived.Test.YtekbpekfomblbaaGreatDoorImplSplit
import Derived.WalkSmall
import Derived.WalkLawsBesides
import Derived.Defers
import Derived.Recover
import Derived.Laws.Pointers
namespace Go.Proofs.YtekbpekfomblbaaGreatDoor.trees
open Go.ChangeShapes Go.WideShapes Go.ChangeAt Go.RowKit Go.Shelf
set_option linter.unusedVariables false
def laysCT_ren : Go.Shelf.Ren := ⟨fun | 144 => 62 | 143 => 80 | 219 => 91 | 217 => 95 | 225 => 96 | 224 => 97 | 267 => 98 | 266 => 104 | 314 => 105 | n => n, fun | 9 => 9 | 4 => 4 | 3 => 3 | 5 => 5 | 46 => 94 | 146 => 119 | 51 => 118 | n => n, fun | 1 => 6 | n => n⟩
theorem laysCT : Go.Proofs.Lays.n144 Tryz.prog laysCT_ren := {
  mixed := by kernel_rfl
  f143 := Tryz.func80.trans (congrArg some (by kernel_rfl))
  f144 := Tryz.func62.trans (congrArg some (by kernel_rfl))
  f217 := Tryz.func95.trans (congrArg some (by kernel_rfl))
  f219 := Tryz.func91.trans (congrArg some (by kernel_rfl))
  f224 := Tryz.func97.trans (congrArg some (by kernel_rfl))
  f225 := Tryz.func96.trans (congrArg some (by kernel_rfl))
  f266 := Tryz.func104.trans (congrArg some (by kernel_rfl))
  f267 := Tryz.func98.trans (congrArg some (by kernel_rfl))
  f314 := Tryz.func105.trans (congrArg some (by kernel_rfl))
  t3 := Tryz.underlying3
  a3 := Tryz.isAgg3
  z3 := Tryz.sizeOf3
  v3 := Tryz.zeroValue3
  t4 := Tryz.underlying4
  a4 := Tryz.isAgg4
  z4 := Tryz.sizeOf4
  v4 := Tryz.zeroValue4
  t5 := Tryz.underlying5
  a5 := Tryz.isAgg5
  z5 := Tryz.sizeOf5
  v5 := Tryz.zeroValue5
  t9 := Tryz.underlying9
  a9 := Tryz.isAgg9
  z9 := Tryz.sizeOf9
  v9 := Tryz.zeroValue9
  t46 := Tryz.underlying94
  a46 := Tryz.isAgg94
  z46 := Tryz.sizeOf94
  v46 := Tryz.zeroValue94
  t51 := Tryz.underlying118
  a51 := Tryz.isAgg118
  z51 := Tryz.sizeOf118
  v51 := Tryz.zeroValue118
  t146 := Tryz.underlying119
  a146 := Tryz.isAgg119
  z146 := Tryz.sizeOf119
  v146 := Tryz.zeroValue119
  g1 := by kernel_rfl }
theorem contains_has (s t : ByteArray) : Lib.contains s.data.toList t.data.toList = hasB s t := by
  have hr : ∀ i, i + t.size ≤ s.size → Lib.occAt s.data.toList t.data.toList i = ((s.extract i (i + t.size)).toList == t.toList) := fun i hj => by
    cases h : ((s.extract i (i + t.size)).toList == t.toList)
    · exact occ_no s t i hj h
    · exact occ_yes s t i hj h
  unfold Lib.contains
  have hroom := Lib.index_room s.data.toList t.data.toList
  rw [Array.length_toList, Array.length_toList] at hroom
  have e1 : s.data.size = s.size := rfl
  have e2 : t.data.size = t.size := rfl
  rw [e1, e2] at hroom
  rcases Lib.index_spec s.data.toList t.data.toList with ⟨h1, h2⟩ | ⟨i, h1, h2, h3, _⟩
  · rw [h1, has_no (fun i hi => ?_)]
    · rfl
    · have := h2 i (by rw [Array.length_toList, e1]; omega)
      rw [hr i hi] at this
      exact this
  · have hi : i + t.size ≤ s.size := by omega
    rw [h1, has_yes hi (by rw [← hr i hi]; exact h3)]
    exact decide_eq_true (by omega)
theorem contains_H (s t : ByteArray) (b : Bool) (hs : s.size ≤ 1048576) (h : hasB s t = b) (w : World) (hm : frames.MaxAt w) : Calls Tryz.prog 62 #[.string s, .string t] w fun e w' => e = .returned (.bool b) ∧ Below w.heap.size w w' := by
  obtain ⟨m, hm⟩ := hm
  refine (Any.strings_Contains laysCT s t m w (by omega) hm).mono ?_
  rintro e w' ⟨he, hw⟩
  rw [contains_has, h] at he
  exact ⟨he, hw ▸ Below.refl _ _⟩
end Go.Proofs.YtekbpekfomblbaaGreatDoor.trees
namespace Go.Proofs.YtekbpekfomblbaaGreatDoor.cuts
open Go.ChangeShapes Go.WideShapes Go.ChangeAt Go.RowKit Go.Shelf
set_option linter.unusedVariables false
theorem data_len (t : ByteArray) : t.data.toList.length = t.size := Array.length_toList
theorem at_occ (s t : ByteArray) (k : Nat) (ht : 0 < t.size) : Lib.occAt s.data.toList t.data.toList k = isAt s t k := by
  by_cases h : k + t.size ≤ s.size
  · rw [isAt_in h]
    cases hb : ((s.extract k (k + t.size)).toList == t.toList)
    · exact occ_no s t k h hb
    · exact occ_yes s t k h hb
  · rw [isAt_out h]
    cases ho : Lib.occAt s.data.toList t.data.toList k
    · rfl
    · rcases Lib.occAt_room ho with h' | h'
      · rw [data_len, data_len] at h'
        exact absurd h' h
      · have := congrArg List.length h'
        rw [data_len] at this
        have h0 : t.size = 0 := this
        omega
theorem data_drop (s : ByteArray) (k : Nat) : (s.extract k s.size).data.toList = s.data.toList.drop k := by
  rw [← refs.drop_extract]
theorem tail_occ (s t : ByteArray) (k i : Nat) (ht : 0 < t.size) : Lib.occAt (s.extract k s.size).data.toList t.data.toList i = isAt s t (k + i) := by
  rw [← at_occ s t _ ht, data_drop]
  unfold Lib.occAt
  rw [List.drop_drop]
theorem tail_prefix (s t : ByteArray) (k : Nat) (ht : 0 < t.size) : Lib.hasPrefix (s.extract k s.size).data.toList t.data.toList = isAt s t k := by
  have := tail_occ s t k 0 ht
  rw [Nat.add_zero] at this
  rw [← this]
  unfold Lib.occAt Lib.hasPrefix
  rw [List.drop_zero]
theorem tail_hit {s t : ByteArray} {k j : Nat} (ht : 0 < t.size) (h : toI s t k = some j) : Lib.indexB (s.extract k s.size) t = ((j - k : Nat) : Int) := by
  obtain ⟨h1, h2, h3⟩ := toI_some h
  have h4 := isAt_le h2
  refine Lib.index_first (by rw [data_len, ByteArray.size_extract]; omega) ?_ (fun i hi => ?_)
  · rw [tail_occ s t k _ ht, show k + (j - k) = j by omega]
    exact h2
  · rw [tail_occ s t k _ ht]
    exact h3 _ (by omega) (by omega)
theorem tail_miss {s t : ByteArray} {k : Nat} (ht : 0 < t.size) (h : toI s t k = none) : Lib.indexB (s.extract k s.size) t = -1 := by
  rcases Lib.index_spec (s.extract k s.size).data.toList t.data.toList with ⟨h1, _⟩ | ⟨i, h1, h2, h3, _⟩
  · exact h1
  · rw [tail_occ s t k i ht, toI_none h _ (by omega)] at h3
    cases h3
theorem tail_ahead (s : ByteArray) (k j : Nat) (h : k ≤ j) (hj : j ≤ s.size) : (s.extract k s.size).extract 0 (j - k) = s.extract k j := by
  rw [ByteArray.extract_extract]
  congr 1
  omega
theorem tail_behind (s : ByteArray) (k j n : Nat) (h : k ≤ j) (hj : j + n ≤ s.size) : (s.extract k s.size).extract (j - k + n) (s.extract k s.size).size = s.extract (j + n) s.size := by
  rw [ByteArray.extract_extract, ByteArray.size_extract]
  congr 1 <;> omega
def laysPre_ren : Go.Shelf.Ren := ⟨fun | 99 => 76 | 206 => 86 | n => n, fun | 9 => 9 | 4 => 4 | 3 => 3 | n => n, fun | n => n⟩
theorem laysPre : Go.Proofs.Lays.n99 Tryz.prog laysPre_ren := {
  mixed := by kernel_rfl
  f99 := Tryz.func76.trans (congrArg some (by kernel_rfl))
  f206 := Tryz.func86.trans (congrArg some (by kernel_rfl))
  t3 := Tryz.underlying3
  a3 := Tryz.isAgg3
  z3 := Tryz.sizeOf3
  v3 := Tryz.zeroValue3
  t4 := Tryz.underlying4
  a4 := Tryz.isAgg4
  z4 := Tryz.sizeOf4
  v4 := Tryz.zeroValue4
  t9 := Tryz.underlying9
  a9 := Tryz.isAgg9
  z9 := Tryz.sizeOf9
  v9 := Tryz.zeroValue9 }
theorem prefix_at (s t : ByteArray) (k : Nat) (w : World) (ht : 0 < t.size) : Calls Tryz.prog 76 #[.string (s.extract k s.size), .string t] w fun e w' => e = .returned (.bool (isAt s t k)) ∧ w' = w := by
  refine (Any.strings_HasPrefix laysPre (s.extract k s.size) t w).mono ?_
  rintro e w' ⟨he, hw⟩
  rw [tail_prefix s t k ht] at he
  exact ⟨he, hw⟩
theorem cut_some (s t : ByteArray) (k j : Nat) (w : World) (hs : s.size ≤ 1048576) (ht : 0 < t.size) (hm : frames.MaxAt w) (h : toI s t k = some j) :
    Calls Tryz.prog 61 #[.string (s.extract k s.size), .string t] w fun e w' => e = .returned (.tuple #[.string (s.extract k j), .string (s.extract (j + t.size) s.size), .bool true]) ∧ Below w.heap.size w w' := by
  obtain ⟨m, hm⟩ := hm
  have hz : (s.extract k s.size).size ≤ 1048576 := by rw [ByteArray.size_extract]; omega
  obtain ⟨h1, h2, h3⟩ := toI_some h
  have h4 := isAt_le h2
  refine (Any.strings_Cut refs.laysCut (s.extract k s.size) t m w (by omega) hm).mono ?_
  rintro e w' ⟨he, n, hw⟩
  obtain ⟨e1, e2, e3⟩ := Lib.cutB_hit (s.extract k s.size) t (j - k) (tail_hit ht h)
  rw [e1, e2, e3, tail_ahead s k j h1 (by omega), tail_behind s k j t.size h1 h4] at he
  exact ⟨he, hw ▸ refs.below_drewN w n⟩
theorem cut_none (s t : ByteArray) (k : Nat) (w : World) (hs : s.size ≤ 1048576) (ht : 0 < t.size) (hm : frames.MaxAt w) (h : toI s t k = none) :
    Calls Tryz.prog 61 #[.string (s.extract k s.size), .string t] w fun e w' => e = .returned (.tuple #[.string (s.extract k s.size), .string ⟨#[]⟩, .bool false]) ∧ Below w.heap.size w w' := by
  obtain ⟨m, hm⟩ := hm
  have hz : (s.extract k s.size).size ≤ 1048576 := by rw [ByteArray.size_extract]; omega
  refine (Any.strings_Cut refs.laysCut (s.extract k s.size) t m w (by omega) hm).mono ?_
  rintro e w' ⟨he, n, hw⟩
  obtain ⟨e1, e2, e3⟩ := Lib.cutB_miss (s.extract k s.size) t (tail_miss ht h)
  rw [e1, e2, e3] at he
  exact ⟨he, hw ▸ refs.below_drewN w n⟩
end Go.Proofs.YtekbpekfomblbaaGreatDoor.cuts
namespace Go.Proofs.YtekbpekfomblbaaGreatDoor.cuts
open Go.ChangeShapes Go.WideShapes Go.ChangeAt Go.RowKit
open names (splitT nameE)
open marks (blanksE)
open pairs (Pair at0 PairsAt)
open trees (Rng Out Bset)
set_option linter.unusedVariables false
/-- A reader's block: its text, its place, and what else it holds. -/
structure Rd (T : TypeId) (w : World) (b : Nat) (s : ByteArray) (k : Nat) (rest : Array Value) : Prop where
  blk : w.heap[b]? = some (.cells (#[.string s, .int .i64 (k : Int)] ++ rest) T (0, 0))
theorem Rd.cells {T : TypeId} {w : World} {b : Nat} {s : ByteArray} {k : Nat} {rest : Array Value} (h : Rd T w b s k rest) : w.cell? ⟨b, 0, none⟩ = some (.string s) ∧ w.cell? ⟨b, 1, none⟩ = some (.int .i64 (k : Int)) ∧ w.frozen? ⟨b, 0, none⟩ = false ∧ w.frozen? ⟨b, 1, none⟩ = false := by
  have hb := h.blk
  refine ⟨?_, ?_, ?_, ?_⟩
  · simp only [World.cell?, hb]
    exact Array.getElem?_append_left (by simp)
  · simp only [World.cell?, hb]
    exact Array.getElem?_append_left (by simp)
  · simp [World.frozen?, hb]
  · simp [World.frozen?, hb]
theorem Rd.lt {T : TypeId} {w : World} {b : Nat} {s : ByteArray} {k : Nat} {rest : Array Value} (h : Rd T w b s k rest) : b < w.heap.size := lt_heap h.blk
theorem Rd.below {T : TypeId} {w w' : World} {b : Nat} {s : ByteArray} {k : Nat} {rest : Array Value} (h : Rd T w b s k rest) (hb : Below w.heap.size w w') : Rd T w' b s k rest := ⟨(hb.block b h.lt).trans h.blk⟩
theorem Rd.set {T : TypeId} {w : World} {b : Nat} {s : ByteArray} {k : Nat} {rest : Array Value} (h : Rd T w b s k rest) (j : Nat) : Rd T (w.setCell ⟨b, 1, none⟩ (.int .i64 (j : Int))) b s j rest := by
  refine ⟨?_⟩
  rw [pairs.block_set _ h.blk]
  congr 2
  apply Array.ext
  · simp
  · intro i h1 h2
    by_cases e : i = 1
    · subst e; simp
    · rw [Array.getElem_setIfInBounds_ne (by simpa using h1) (Ne.symm e)]
      by_cases e0 : i = 0
      · subst e0; simp
      · rw [Array.getElem_append_right (by simp; omega), Array.getElem_append_right (by simp; omega)]
        rfl
theorem gr_below {w w' : World} {b : Nat} (h : Below w.heap.size w w') : w.grownBy w' (some b) := pairs.grown_below h
theorem gr_trans {w w1 w2 : World} {b : Nat} (h : w.grownBy w1 (some b)) (k : w1.grownBy w2 (some b)) : w.grownBy w2 (some b) := pairs.grown_trans h k
theorem gr_set {w w1 : World} {b i : Nat} {u : Value} (h : w.grownBy w1 (some b)) : w.grownBy (w1.setCell ⟨b, i, none⟩ u) (some b) := pairs.grown_trans h (pairs.grown_set _ _ _ _)
def isF (b : Bool) (k n : Nat) : Nat := bif b then k + n else k
set_option maxRecDepth 100000 in
set_option maxHeartbeats 2000000 in
theorem cur_stands (T : TypeId) (s t : ByteArray) (k b : Nat) (rest : Array Value) (w : World) (hs : s.size ≤ 1048576) (hk : k ≤ s.size) (ht : 0 < t.size) (hR : Rd T w b s k rest) : Calls Tryz.prog 56 #[.pointer (some ⟨b, 0, none⟩), .string t] w fun e w' => e = .returned (.bool (isAt s t k)) ∧ Below w.heap.size w w' := by
  have HH : Hid (∀ W, _) := fun W => prefix_at s t k W ht
  have hl : ∀ W, Below w.heap.size w W → W.cell? ⟨b, 0, none⟩ = some (.string s) ∧ W.cell? ⟨b, 1, none⟩ = some (.int .i64 (k : Int)) := fun W h => ⟨(hR.below h).cells.1, (hR.below h).cells.2.1⟩
  have hcut : ∀ W, (Instr.slice 9 (.string s) (some (.int .i64 (k : Int))) none none).run Tryz.prog W = .ok (.string (s.extract k s.size)) W := fun W => by
    have : (k : Int) ≤ s.size := by omega
    simp [go_sem, this]
  clear hR
  go_enter Tryz.func56, Tryz.ntmps56
  go_wp2_with fail
  refine quiets.wp_region_below (by kernel_rfl) (by kernel_rfl) ?_
  repeat (go_big_quiet_step ((first | (intro hq; rfl) | (intro hq; simp [go_sem, (hl _ hq).1]; rfl) | (intro hq; simp [go_sem, (hl _ hq).2]; rfl) | (intro hq; rw [hcut]; rfl) | (intro hq; exact quiets.below_same (HH.out _) hq))))
  refine wpQuiet_nil ?_
  intro w6 hb6
  go_wp2
  go_ret
  exact ⟨rfl, hb6⟩
set_option maxRecDepth 100000 in
set_option maxHeartbeats 2000000 in
theorem cur_take (T : TypeId) (s t : ByteArray) (k b : Nat) (rest : Array Value) (w : World) (hs : s.size ≤ 1048576) (hk : k ≤ s.size) (ht : 0 < t.size) (hR : Rd T w b s k rest) : Calls Tryz.prog 34 #[.pointer (some ⟨b, 0, none⟩), .string t] w fun e w' => e = .returned (.bool (isAt s t k)) ∧ Rd T w' b s (isF (isAt s t k) k t.size) rest ∧ w.grownBy w' (some b) := by
  have HH : Hid _ := cur_stands T s t k b rest w hs hk ht hR
  have HR : Hid (Rd T w b s k rest) := hR
  cases hb : isAt s t k
  · rw [hb] at HH
    clear hb hR
    go_enter Tryz.func34, Tryz.ntmps34
    go_wp2_with fail
    refine Calls.mono HH.out ?_
    rintro e w1 ⟨rfl, hb1⟩
    have HB1 : Hid _ := hb1
    clear hb1
    go_wp2
    go_ret
    exact ⟨rfl, HR.out.below HB1.out, gr_below HB1.out⟩
  · have hle := isAt_le hb
    rw [hb] at HH
    clear hb hR
    go_enter Tryz.func34, Tryz.ntmps34
    go_wp2_with fail
    refine Calls.mono HH.out ?_
    rintro e w1 ⟨rfl, hb1⟩
    have HB1 : Hid _ := hb1
    have HR1 : Hid _ := HR.out.below hb1
    obtain ⟨c0, c1, f0, f1⟩ := HR1.out.cells
    have HR2 : Hid (Rd T (w1.setCell ⟨b, 1, none⟩ (.int .i64 ((k : Int) + (t.size : Int)))) b s (k + t.size) rest) := HR1.out.set (k + t.size)
    clear hb1
    go_wp2
    go_ret
    exact ⟨rfl, HR2.out, gr_set (gr_below HB1.out)⟩
set_option maxRecDepth 100000 in
set_option maxHeartbeats 2000000 in
theorem cur_blanks (T : TypeId) (s : ByteArray) (k b : Nat) (rest : Array Value) (w : World) (hs : s.size ≤ 1048576) (hk : k ≤ s.size) (hR : Rd T w b s k rest) : Calls Tryz.prog 59 #[.pointer (some ⟨b, 0, none⟩)] w fun e w' => e = .returned (.bool (decide (k < blanksE s k))) ∧ Rd T w' b s (blanksE s k) rest ∧ w.grownBy w' (some b) := by
  have HH : Hid (∀ W, _) := fun W => marks.impl_blanks_in s k W (by unfold maxLen; omega) hk
  have HR : Hid (Rd T w b s k rest) := hR
  obtain ⟨j, hj⟩ : ∃ j, blanksE s k = j := ⟨_, rfl⟩
  rw [hj] at HH
  rw [hj]
  clear hj
  obtain ⟨c0, c1, f0, f1⟩ := hR.cells
  clear hR
  go_enter Tryz.func59, Tryz.ntmps59
  go_wp2_with fail
  refine Calls.mono (HH.out _) ?_
  rintro e w1 ⟨rfl, hb1⟩
  have HB1 : Hid _ := hb1
  have HR1 : Hid _ := HR.out.below hb1
  clear c0 c1 f0 f1
  obtain ⟨c0, c1, f0, f1⟩ := HR1.out.cells
  have HR2 : Hid (Rd T (w1.setCell ⟨b, 1, none⟩ (.int .i64 (j : Int))) b s j rest) := HR1.out.set j
  clear hb1
  go_wp2
  go_ret
  exact ⟨rfl, HR2.out, gr_set (gr_below HB1.out)⟩
theorem split_I (n x y : ByteArray) (ok : Bool) (h : splitT n = (x, y, ok)) (hs : n.size ≤ maxLen) (w : World) (hT : names.Tabs w) : Calls Tryz.prog 88 #[.string n] w fun e w' => e = .returned (.tuple #[.string x, .string y, .bool ok]) ∧ Below w.heap.size w w' := by
  have := names.impl_split n w hs hT
  rw [h] at this
  exact this
set_option maxRecDepth 100000 in
set_option maxHeartbeats 2000000 in
theorem cur_name (T : TypeId) (s : ByteArray) (k b : Nat) (rest : Array Value) (w : World) (hs : s.size ≤ 1048576) (hk : k ≤ s.size) (hT : names.Tabs w) (hR : Rd T w b s k rest) : Calls Tryz.prog 77 #[.pointer (some ⟨b, 0, none⟩)] w fun e w' =>
    (if (splitT (s.extract k (nameE s k))).2.2 = true then e = .returned (.tuple #[.string (s.extract k (nameE s k)), .bool true]) ∧ Rd T w' b s (nameE s k) rest else e = .returned (.tuple #[.string ⟨#[]⟩, .bool false]) ∧ Rd T w' b s k rest) ∧ w.grownBy w' (some b) := by
  have HT : Hid (names.Tabs w) := hT
  have HR : Hid (Rd T w b s k rest) := hR
  have hzn : (s.extract k (nameE s k)).size ≤ maxLen := names.ext_size (by unfold maxLen; omega)
  have h1 := fun W (h : names.Tabs W) => names.impl_name_in s k W (by unfold maxLen; omega) hk h
  unfold names.n2 at h1
  obtain ⟨j, hj⟩ : ∃ j, nameE s k = j := ⟨_, rfl⟩
  rw [hj] at h1 hzn
  rw [hj]
  obtain ⟨n, hn⟩ : ∃ n, s.extract k j = n := ⟨_, rfl⟩
  rw [hn] at h1 hzn
  rw [hn]
  obtain ⟨x, y, ok, hsp⟩ : ∃ x y ok, splitT n = (x, y, ok) := ⟨_, _, _, rfl⟩
  have H1 : Hid (∀ W, names.Tabs W → _) := h1
  have H2 : Hid (∀ W, names.Tabs W → _) := fun W h => split_I n x y ok hsp hzn W h
  rw [hsp]
  have hl : ∀ W, Below w.heap.size w W → W.cell? ⟨b, 0, none⟩ = some (.string s) ∧ W.cell? ⟨b, 1, none⟩ = some (.int .i64 (k : Int)) := fun W h => ⟨(hR.below h).cells.1, (hR.below h).cells.2.1⟩
  have HTB : Hid (∀ W, Below w.heap.size w W → names.Tabs W) := fun W h => hT.below h
  clear hR hj hn hsp h1 hzn hT
  go_enter Tryz.func77, Tryz.ntmps77
  go_wp2_with fail
  refine quiets.wp_region_below (by kernel_rfl) (by kernel_rfl) ?_
  repeat (go_big_quiet_step ((first | (intro hq; rfl) | (intro hq; simp [go_sem, (hl _ hq).1]; rfl) | (intro hq; simp [go_sem, (hl _ hq).2]; rfl) | (intro hq; exact quiets.below_call (H1.out _ (HTB.out _ hq)) hq))))
  refine wpQuiet_nil ?_
  intro w6 hb6
  have HB6 : Hid _ := hb6
  clear hb6 hl
  go_wp2_with fail
  refine Calls.mono (H2.out _ (HTB.out _ HB6.out)) ?_
  rintro e w7 ⟨rfl, hb7⟩
  have HB7 : Hid (Below w.heap.size w w7) := HB6.out.trans (hb7.mono HB6.out.size)
  have HR7 : Hid _ := HR.out.below HB7.out
  obtain ⟨c0, c1, f0, f1⟩ := HR7.out.cells
  clear hb7
  cases ok
  · go_wp2
    go_ret2
    exact ⟨⟨rfl, HR7.out⟩, gr_below HB7.out⟩
  · have HR8 : Hid (Rd T (w7.setCell ⟨b, 1, none⟩ (.int .i64 (j : Int))) b s j rest) := HR7.out.set j
    go_wp2
    go_ret2
    exact ⟨⟨rfl, HR8.out⟩, gr_set (gr_below HB7.out)⟩
/-- What takeUpTo answers. -/
def upOk (T : TypeId) (s t : ByteArray) (k b : Nat) (rest : Array Value) (w' : World) (e : Ending) : Prop :=
  match toI s t k with
  | none => e = .returned (.tuple #[.string ⟨#[]⟩, .bool false]) ∧ Rd T w' b s k rest
  | some j => e = .returned (.tuple #[.string (s.extract k j), .bool true]) ∧ Rd T w' b s (j + t.size) rest
theorem up_no {T : TypeId} {s t : ByteArray} {k b : Nat} {rest : Array Value} {w' : World} {e : Ending} (hj : toI s t k = none) (h : e = .returned (.tuple #[.string ⟨#[]⟩, .bool false]) ∧ Rd T w' b s k rest) : upOk T s t k b rest w' e := by unfold upOk; rw [hj]; exact h
theorem up_yes {T : TypeId} {s t : ByteArray} {k b j : Nat} {rest : Array Value} {w' : World} {e : Ending} (hj : toI s t k = some j) (h : e = .returned (.tuple #[.string (s.extract k j), .bool true]) ∧ Rd T w' b s (j + t.size) rest) : upOk T s t k b rest w' e := by unfold upOk; rw [hj]; exact h
set_option maxRecDepth 100000 in
set_option maxHeartbeats 2000000 in
theorem cur_up (T : TypeId) (s t : ByteArray) (k b : Nat) (rest : Array Value) (w : World) (hs : s.size ≤ 1048576) (hk : k ≤ s.size) (ht : 0 < t.size) (hm : frames.MaxAt w) (hR : Rd T w b s k rest) : Calls Tryz.prog 57 #[.pointer (some ⟨b, 0, none⟩), .string t] w fun e w' => upOk T s t k b rest w' e ∧ w.grownBy w' (some b) := by
  have HR : Hid (Rd T w b s k rest) := hR
  have hl : ∀ W, Below w.heap.size w W → W.cell? ⟨b, 0, none⟩ = some (.string s) ∧ W.cell? ⟨b, 1, none⟩ = some (.int .i64 (k : Int)) := fun W h => ⟨(hR.below h).cells.1, (hR.below h).cells.2.1⟩
  have hcut : ∀ W, (Instr.slice 9 (.string s) (some (.int .i64 (k : Int))) none none).run Tryz.prog W = .ok (.string (s.extract k s.size)) W := fun W => by
    have : (k : Int) ≤ s.size := by omega
    simp [go_sem, this]
  cases hj : toI s t k with
  | none =>
    have H1 : Hid (∀ W, Below w.heap.size w W → _) := fun W h => cut_none s t k W hs ht (hm.below h) hj
    have HJ : Hid _ := hj
    clear hR hm hj
    go_enter Tryz.func57, Tryz.ntmps57
    go_wp2_with fail
    refine quiets.wp_region_below (by kernel_rfl) (by kernel_rfl) ?_
    repeat (go_big_quiet_step ((first | (intro hq; rfl) | (intro hq; simp [go_sem, (hl _ hq).1]; rfl) | (intro hq; simp [go_sem, (hl _ hq).2]; rfl) | (intro hq; rw [hcut]; rfl) | (intro hq; exact quiets.below_call (H1.out _ hq) hq))))
    refine wpQuiet_nil ?_
    intro w6 hb6
    have HB6 : Hid _ := hb6
    clear hb6 hl hcut
    go_wp2
    go_ret2
    exact ⟨up_no HJ.out ⟨rfl, HR.out.below HB6.out⟩, gr_below HB6.out⟩
  | some j =>
    have H1 : Hid (∀ W, Below w.heap.size w W → _) := fun W h => cut_some s t k j W hs ht (hm.below h) hj
    have HJ : Hid _ := hj
    obtain ⟨hkj, hat, _⟩ := toI_some hj
    have hle := isAt_le hat
    obtain ⟨x, hx⟩ : ∃ x, s.extract k j = x := ⟨_, rfl⟩
    have HXS : Hid (x.size = j - k) := by show _ = _; rw [← hx, ByteArray.size_extract]; omega
    have hxz : x.size ≤ 1048576 := by have := HXS.out; omega
    have htz : t.size ≤ 1048576 := by omega
    have HLE : Hid (k ≤ j ∧ j + t.size ≤ s.size) := ⟨hkj, hle⟩
    clear hkj hle
    have HX : Hid (s.extract k j = x) := hx
    rw [hx] at H1
    obtain ⟨y, hy⟩ : ∃ y, s.extract (j + t.size) s.size = y := ⟨_, rfl⟩
    rw [hy] at H1
    clear hR hm hj hat hx hy
    go_enter Tryz.func57, Tryz.ntmps57
    go_wp2_with fail
    refine quiets.wp_region_below (by kernel_rfl) (by kernel_rfl) ?_
    repeat (go_big_quiet_step ((first | (intro hq; rfl) | (intro hq; simp [go_sem, (hl _ hq).1]; rfl) | (intro hq; simp [go_sem, (hl _ hq).2]; rfl) | (intro hq; rw [hcut]; rfl) | (intro hq; exact quiets.below_call (H1.out _ hq) hq))))
    refine wpQuiet_nil ?_
    intro w6 hb6
    have HB6 : Hid _ := hb6
    have HR6 : Hid _ := HR.out.below hb6
    obtain ⟨c0, c1, f0, f1⟩ := HR6.out.cells
    have HR7 : Hid (Rd T (w6.setCell ⟨b, 1, none⟩ (.int .i64 ((k : Int) + ((x.size : Int) + (t.size : Int))))) b s (j + t.size) rest) := by
      have := HR6.out.set (j + t.size)
      rw [show ((j + t.size : Nat) : Int) = (k : Int) + ((x.size : Int) + (t.size : Int)) by have := HXS.out; have := HLE.out; omega] at this
      exact this
    clear hb6 hl hcut
    go_wp2
    go_ret2
    exact ⟨up_yes HJ.out ⟨by rw [HX.out]; rfl, HR7.out⟩, gr_set (gr_below HB6.out)⟩
end Go.Proofs.YtekbpekfomblbaaGreatDoor.cuts
namespace Go.Proofs.YtekbpekfomblbaaGreatDoor.cuts
open Go.ChangeShapes Go.WideShapes Go.ChangeAt Go.RowKit
open names (splitT nameE)
open marks (blanksE)
open pairs (Pair at0 PairsAt)
open trees (Rng Out Bset)
set_option linter.unusedVariables false
/-- What a call ends with that gives up. -/
def gaveUp (e : Ending) : Prop := e = .panicked [{ v := .iface 9 (.string ⟨#[105, 116, 32, 100, 111, 101, 115, 32, 110, 111, 116, 32, 103, 111, 32, 111, 110, 32, 115, 111]⟩), recovered := false }]
/-- What a reader's block may count on: the tables and the list that its call was handed lie below it. -/
structure Env (w0 w : World) (b : Nat) (ad : Option Addr) (L : List Pair) : Prop where
  tab : refs.XTabs w0
  row : PairsAt w0 ad L
  ge : w0.heap.size ≤ b
  bel : Below w0.heap.size w0 w
theorem Env.step {w0 w w' : World} {b : Nat} {ad : Option Addr} {L : List Pair} (h : Env w0 w b ad L) (hg : w.grownBy w' (some b)) : Env w0 w' b ad L :=
  ⟨h.tab, h.row, h.ge, h.bel.trans ⟨hg.os, hg.tape, hg.output, hg.size, fun k hk => hg.block k (Nat.lt_of_lt_of_le hk h.bel.size) (fun e => by cases e; have := h.ge; omega)⟩⟩
theorem Env.below {w0 w w' : World} {b : Nat} {ad : Option Addr} {L : List Pair} (h : Env w0 w b ad L) (hb : Below w.heap.size w w') : Env w0 w' b ad L := h.step (gr_below hb)
theorem Env.xt {w0 w : World} {b : Nat} {ad : Option Addr} {L : List Pair} (h : Env w0 w b ad L) : refs.XTabs w := h.tab.below h.bel
theorem Env.pairs {w0 w : World} {b : Nat} {ad : Option Addr} {L : List Pair} (h : Env w0 w b ad L) : PairsAt w ad L := h.row.below (Nat.le_refl _) h.bel
/-- The reader of marks: its block holds the list besides. -/
abbrev Rm (w : World) (b : Nat) (s : ByteArray) (k : Nat) (ad : Option Addr) (n c : Nat) : Prop := Rd 52 w b s k #[.slice ad n c]
theorem rm_third {w : World} {b : Nat} {s : ByteArray} {k : Nat} {ad : Option Addr} {n c : Nat} (h : Rm w b s k ad n c) : w.cell? ⟨b, 2, none⟩ = some (.slice ad n c) := by
  have := h.blk
  simp [World.cell?, this]
theorem gr_set2 {w w1 : World} {b g i : Nat} {u : Value} (h : w.grownBy w1 (some b)) (hg : w.heap.size ≤ g) : w.grownBy (w1.setCell ⟨g, i, none⟩ u) (some b) :=
  ⟨h.os, h.tape, h.output, by rw [trees.size_setCell]; exact h.size, fun k hk hne => (Below.heap_setCell w1 ⟨g, i, none⟩ u k (by show k ≠ g; omega)).trans (h.block k hk hne)⟩
theorem gr_alloc {w w1 : World} {b : Nat} {o : Obj} (h : w.grownBy w1 (some b)) : w.grownBy (w1.alloc o) (some b) := gr_trans h (gr_below ((Below.refl _ _).alloc (Nat.le_refl _) o))
theorem gr_from {w w1 : World} {b : Nat} {o : Obj} (h : (w.alloc o).grownBy w1 (some b)) : w.grownBy w1 (some b) := gr_trans (gr_alloc (pairs.grown_refl _ _)) h
set_option maxRecDepth 100000 in
theorem must_yes (p : Value) (w : World) : Calls Tryz.prog 20 #[p, .bool true] w fun e w' => e = .returned (.tuple #[]) ∧ w' = w := by
  go_enter Tryz.func20, Tryz.ntmps20
  go_wp2
  exact ⟨rfl, _, results_none rfl _ _ _, rfl, rfl⟩
set_option maxRecDepth 100000 in
theorem must_no (p : Value) (w : World) : Calls Tryz.prog 20 #[p, .bool false] w fun e w' => e = .panicked [{ v := .iface 9 (.string ⟨#[105, 116, 32, 100, 111, 101, 115, 32, 110, 111, 116, 32, 103, 111, 32, 111, 110, 32, 115, 111]⟩), recovered := false }] ∧ w' = w := by
  go_enter Tryz.func20, Tryz.ntmps20
  go_wp2
  exact ⟨rfl, rfl, rfl⟩
set_option maxRecDepth 100000 in
set_option maxHeartbeats 2000000 in
theorem name_yes (s x : ByteArray) (k j b : Nat) (ad : Option Addr) (n c : Nat) (w : World) (hs : s.size ≤ 1048576) (hk : k ≤ s.size) (hj : nameE s k = j) (hx : s.extract k j = x) (hok : (splitT x).2.2 = true) (hT : names.Tabs w) (hR : Rm w b s k ad n c) : Calls Tryz.prog 58 #[.pointer (some ⟨b, 0, none⟩)] w fun e w' => e = .returned (.string x) ∧ Rm w' b s j ad n c ∧ w.grownBy w' (some b) := by
  have h1 := cur_name _ s k b _ w hs hk hT hR
  rw [hj, hx] at h1
  simp only [if_pos hok] at h1
  have H1 : Hid _ := h1
  clear h1 hx hok hR hT hj
  go_enter Tryz.func58, Tryz.ntmps58
  go_wp2_with fail
  refine Calls.mono H1.out ?_
  rintro e w1 ⟨⟨rfl, hr⟩, hg⟩
  have HR : Hid _ := hr
  have HG : Hid _ := hg
  clear hr hg
  go_wp2_with (go_at_call 20; refine Calls.mono (must_yes _ _) ?_; rintro e w2 ⟨rfl, hw2⟩; have hw3 := hw2.symm; clear hw2; subst hw3)
  go_ret
  exact ⟨rfl, HR.out, HG.out⟩
set_option maxRecDepth 100000 in
set_option maxHeartbeats 2000000 in
theorem name_no (s x : ByteArray) (k j b : Nat) (ad : Option Addr) (n c : Nat) (w : World) (hs : s.size ≤ 1048576) (hk : k ≤ s.size) (hj : nameE s k = j) (hx : s.extract k j = x) (hok : ¬ (splitT x).2.2 = true) (hT : names.Tabs w) (hR : Rm w b s k ad n c) : Calls Tryz.prog 58 #[.pointer (some ⟨b, 0, none⟩)] w fun e w' => e = .panicked [{ v := .iface 9 (.string ⟨#[105, 116, 32, 100, 111, 101, 115, 32, 110, 111, 116, 32, 103, 111, 32, 111, 110, 32, 115, 111]⟩), recovered := false }] ∧ w.grownBy w' (some b) := by
  have h1 := cur_name _ s k b _ w hs hk hT hR
  rw [hj, hx] at h1
  simp only [if_neg hok] at h1
  have H1 : Hid _ := h1
  clear h1 hx hok hR hT hj
  go_enter Tryz.func58, Tryz.ntmps58
  go_wp2_with fail
  refine Calls.mono H1.out ?_
  rintro e w1 ⟨⟨rfl, hr⟩, hg⟩
  have HG : Hid _ := hg
  clear hr hg
  go_wp2_with (go_at_call 20; refine Calls.mono (must_no _ _) ?_; rintro e w2 ⟨rfl, hw2⟩; have hw3 := hw2.symm; clear hw2; subst hw3)
  exact ⟨rfl, rfl, HG.out⟩
/-- What textUpTo answers. -/
def txtOk (s t : ByteArray) (k b : Nat) (ad : Option Addr) (n c : Nat) (w' : World) (e : Ending) : Prop :=
  match toI s t k with
  | none => gaveUp e
  | some j => if refs.textB (s.extract k j) = true then e = .returned (.string (s.extract k j)) ∧ Rm w' b s (j + t.size) ad n c else gaveUp e
theorem txt_none {s t : ByteArray} {k b : Nat} {ad : Option Addr} {n c : Nat} {w' : World} {e : Ending} (hj : toI s t k = none) (h : gaveUp e) : txtOk s t k b ad n c w' e := by unfold txtOk; rw [hj]; exact h
theorem txt_no {s t : ByteArray} {k b j : Nat} {ad : Option Addr} {n c : Nat} {w' : World} {e : Ending} (hj : toI s t k = some j) (ht : refs.textB (s.extract k j) = false) (h : gaveUp e) : txtOk s t k b ad n c w' e := by unfold txtOk; rw [hj]; show if _ then _ else _; rw [if_neg (by rw [ht]; decide)]; exact h
theorem txt_yes {s t : ByteArray} {k b j : Nat} {ad : Option Addr} {n c : Nat} {w' : World} {e : Ending} (hj : toI s t k = some j) (ht : refs.textB (s.extract k j) = true) (h : e = .returned (.string (s.extract k j)) ∧ Rm w' b s (j + t.size) ad n c) : txtOk s t k b ad n c w' e := by unfold txtOk; rw [hj]; show if _ then _ else _; rw [if_pos ht]; exact h
theorem text_H (s : ByteArray) (v : Bool) (hs : s.size ≤ 1048576) (h : refs.textB s = v) (w : World) (hT : refs.XTabs w) : Calls Tryz.prog 8 #[.string s] w fun e w' => e = .returned (.bool v) ∧ Below w.heap.size w w' := by
  have := refs.impl_textB s w (by unfold maxLen; omega) hT.tab
  rw [h] at this
  exact this
set_option maxRecDepth 100000 in
set_option maxHeartbeats 2000000 in
theorem rd_text (s t : ByteArray) (k b : Nat) (w0 : World) (ad : Option Addr) (L : List Pair) (n c : Nat) (w : World) (hs : s.size ≤ 1048576) (hk : k ≤ s.size) (ht : 0 < t.size) (hE : Env w0 w b ad L) (hR : Rm w b s k ad n c) : Calls Tryz.prog 35 #[.pointer (some ⟨b, 0, none⟩), .string t] w fun e w' => txtOk s t k b ad n c w' e ∧ w.grownBy w' (some b) := by
  have h1 := cur_up _ s t k b _ w hs hk ht hE.xt.max hR
  have HE : Hid (Env w0 w b ad L) := hE
  have HSZ : Hid (s.size ≤ 1048576) := hs
  cases hj : toI s t k with
  | none =>
    have HJ : Hid _ := hj
    have H1 : Hid (Calls Tryz.prog 57 #[.pointer (some ⟨b, 0, none⟩), .string t] w fun e w' => e = .returned (.tuple #[.string ⟨#[]⟩, .bool false]) ∧ w.grownBy w' (some b)) := h1.mono (fun e w' ⟨h, hg⟩ => by
      unfold upOk at h; rw [hj] at h; exact ⟨h.1, hg⟩)
    clear h1 hj hR hE
    go_enter Tryz.func35, Tryz.ntmps35
    go_wp2_with fail
    refine Calls.mono H1.out ?_
    rintro e w1 ⟨rfl, hg⟩
    have HG : Hid _ := hg
    clear hg
    go_wp2_with (go_at_call 20; refine Calls.mono (must_no _ _) ?_; rintro e w2 ⟨rfl, hw2⟩; have hw3 := hw2.symm; clear hw2; subst hw3)
    exact ⟨rfl, txt_none HJ.out rfl, HG.out⟩
  | some j =>
    have HJ : Hid _ := hj
    have H1 : Hid (Calls Tryz.prog 57 #[.pointer (some ⟨b, 0, none⟩), .string t] w fun e w' => (e = .returned (.tuple #[.string (s.extract k j), .bool true]) ∧ Rm w' b s (j + t.size) ad n c) ∧ w.grownBy w' (some b)) := h1.mono (fun e w' ⟨h, hg⟩ => by
      unfold upOk at h; rw [hj] at h; exact ⟨h, hg⟩)
    obtain ⟨x, hx⟩ : ∃ x, s.extract k j = x := ⟨_, rfl⟩
    have HX : Hid _ := hx
    have hxz : x.size ≤ 1048576 := by rw [← hx, ByteArray.size_extract]; omega
    rw [hx] at H1
    cases htx : refs.textB x
    · have HT : Hid (∀ W, refs.XTabs W → _) := fun W h => text_H x false hxz htx W h
      have HN : Hid (refs.textB (s.extract k j) = false) := by show _ = _; rw [hx]; exact htx
      clear h1 hj hR hE hx htx
      go_enter Tryz.func35, Tryz.ntmps35
      go_wp2_with fail
      refine Calls.mono H1.out ?_
      rintro e w1 ⟨⟨rfl, hr⟩, hg⟩
      have HG : Hid _ := hg
      clear hg hr
      go_wp2_with fail
      refine Calls.mono (HT.out _ (HE.out.step HG.out).xt) ?_
      rintro e w2 ⟨rfl, hb⟩
      have HG2 : Hid _ := gr_trans HG.out (gr_below hb)
      clear hb
      go_wp2_with (go_at_call 20; refine Calls.mono (must_no _ _) ?_; rintro e w2 ⟨rfl, hw2⟩; have hw3 := hw2.symm; clear hw2; subst hw3)
      exact ⟨rfl, txt_no HJ.out HN.out rfl, HG2.out⟩
    · have HT : Hid (∀ W, refs.XTabs W → _) := fun W h => text_H x true hxz htx W h
      have HN : Hid (refs.textB (s.extract k j) = true) := by show _ = _; rw [hx]; exact htx
      clear h1 hj hR hE hx htx
      go_enter Tryz.func35, Tryz.ntmps35
      go_wp2_with fail
      refine Calls.mono H1.out ?_
      rintro e w1 ⟨⟨rfl, hr⟩, hg⟩
      have HG : Hid _ := hg
      have HR : Hid _ := hr
      clear hg hr
      go_wp2_with fail
      refine Calls.mono (HT.out _ (HE.out.step HG.out).xt) ?_
      rintro e w2 ⟨rfl, hb⟩
      have HG2 : Hid _ := gr_trans HG.out (gr_below hb)
      have HR2 : Hid _ := HR.out.below hb
      clear hb
      go_wp2_with (go_at_call 20; refine Calls.mono (must_yes _ _) ?_; rintro e w2 ⟨rfl, hw2⟩; have hw3 := hw2.symm; clear hw2; subst hw3)
      go_ret
      exact ⟨txt_yes HJ.out HN.out ⟨by rw [HX.out]; rfl, HR2.out⟩, HG2.out⟩
theorem txt_some {s t x : ByteArray} {k b j : Nat} {w0 : World} {ad : Option Addr} {L : List Pair} {n c : Nat} {w : World} (hs : s.size ≤ 1048576) (hk : k ≤ s.size) (ht : 0 < t.size) (hj : toI s t k = some j) (hx : s.extract k j = x) (hb : refs.textB x = true) (hE : Env w0 w b ad L) (hR : Rm w b s k ad n c) : Calls Tryz.prog 35 #[.pointer (some ⟨b, 0, none⟩), .string t] w fun e w' => e = .returned (.string x) ∧ Rm w' b s (j + t.size) ad n c ∧ w.grownBy w' (some b) :=
  (rd_text s t k b w0 ad L n c w hs hk ht hE hR).mono (fun e w' ⟨h, hg⟩ => by
    unfold txtOk at h
    rw [hj] at h
    simp only [hx, if_pos hb] at h
    exact ⟨h.1, h.2, hg⟩)
theorem txt_long {s t x : ByteArray} {k b j : Nat} {w0 : World} {ad : Option Addr} {L : List Pair} {n c : Nat} {w : World} (hs : s.size ≤ 1048576) (hk : k ≤ s.size) (ht : 0 < t.size) (hj : toI s t k = some j) (hx : s.extract k j = x) (hb : refs.textB x = false) (hE : Env w0 w b ad L) (hR : Rm w b s k ad n c) : Calls Tryz.prog 35 #[.pointer (some ⟨b, 0, none⟩), .string t] w fun e w' => e = .panicked [{ v := .iface 9 (.string ⟨#[105, 116, 32, 100, 111, 101, 115, 32, 110, 111, 116, 32, 103, 111, 32, 111, 110, 32, 115, 111]⟩), recovered := false }] ∧ w.grownBy w' (some b) :=
  (rd_text s t k b w0 ad L n c w hs hk ht hE hR).mono (fun e w' ⟨h, hg⟩ => by
    unfold txtOk at h
    rw [hj] at h
    simp only [hx, hb] at h
    exact ⟨h, hg⟩)
theorem txt_miss {s t : ByteArray} {k b : Nat} {w0 : World} {ad : Option Addr} {L : List Pair} {n c : Nat} {w : World} (hs : s.size ≤ 1048576) (hk : k ≤ s.size) (ht : 0 < t.size) (hj : toI s t k = none) (hE : Env w0 w b ad L) (hR : Rm w b s k ad n c) : Calls Tryz.prog 35 #[.pointer (some ⟨b, 0, none⟩), .string t] w fun e w' => e = .panicked [{ v := .iface 9 (.string ⟨#[105, 116, 32, 100, 111, 101, 115, 32, 110, 111, 116, 32, 103, 111, 32, 111, 110, 32, 115, 111]⟩), recovered := false }] ∧ w.grownBy w' (some b) :=
  (rd_text s t k b w0 ad L n c w hs hk ht hE hR).mono (fun e w' ⟨h, hg⟩ => by
    unfold txtOk at h
    rw [hj] at h
    exact ⟨h, hg⟩)
theorem expand_I (s x : ByteArray) (ok : Bool) (L : List Pair) (hs : s.size ≤ maxLen) (hv : ∀ i, i < L.length → (at0 L i).2.size ≤ 1048576) (h : refs.expandR s L = (x, ok)) (a : Option Addr) (cap : Nat) (w : World) (hT : refs.XTabs w) (hL : PairsAt w a L) : Calls Tryz.prog 81 #[.string s, .slice a L.length cap] w fun e w' => e = .returned (.tuple #[.string x, .bool ok]) ∧ Below w.heap.size w w' := by
  have := refs.impl_expand s a L cap w hs hT hL hv
  rw [h] at this
  exact this
set_option maxRecDepth 100000 in
set_option maxHeartbeats 2000000 in
theorem rd_expanded (s y x : ByteArray) (ok : Bool) (k b : Nat) (w0 : World) (ad : Option Addr) (L : List Pair) (c : Nat) (w : World) (hy : y.size ≤ 1048576) (hv : ∀ i, i < L.length → (at0 L i).2.size ≤ 1048576) (hx : refs.expandR y L = (x, ok)) (hE : Env w0 w b ad L) (hR : Rm w b s k ad L.length c) : Calls Tryz.prog 63 #[.pointer (some ⟨b, 0, none⟩), .string y] w fun e w' => (if ok = true then e = .returned (.string x) ∧ Rm w' b s k ad L.length c else gaveUp e) ∧ w.grownBy w' (some b) := by
  have c2 := rm_third hR
  have HE : Hid (Env w0 w b ad L) := hE
  have HR : Hid _ := hR
  have H1 : Hid (∀ W, refs.XTabs W → PairsAt W ad L → _) := fun W h1 h2 => expand_I y x ok L (by unfold maxLen; omega) hv hx ad c W h1 h2
  clear hE hR hx hv
  cases ok
  · go_enter Tryz.func63, Tryz.ntmps63
    go_wp2_with fail
    refine Calls.mono (H1.out _ HE.out.xt HE.out.pairs) ?_
    rintro e w1 ⟨rfl, hb⟩
    have HG : Hid (w.grownBy w1 (some b)) := gr_below hb
    clear hb
    go_wp2_with (go_at_call 20; refine Calls.mono (must_no _ _) ?_; rintro e w2 ⟨rfl, hw2⟩; have hw3 := hw2.symm; clear hw2; subst hw3)
    first | exact ⟨rfl, rfl, HG.out⟩ | exact ⟨rfl, by rw [if_neg (by decide)]; exact rfl, HG.out⟩
  · go_enter Tryz.func63, Tryz.ntmps63
    go_wp2_with fail
    refine Calls.mono (H1.out _ HE.out.xt HE.out.pairs) ?_
    rintro e w1 ⟨rfl, hb⟩
    have HG : Hid (w.grownBy w1 (some b)) := gr_below hb
    have HR1 : Hid _ := HR.out.below hb
    clear hb
    go_wp2_with (go_at_call 20; refine Calls.mono (must_yes _ _) ?_; rintro e w2 ⟨rfl, hw2⟩; have hw3 := hw2.symm; clear hw2; subst hw3)
    go_ret
    first | exact ⟨⟨rfl, HR1.out⟩, HG.out⟩ | exact ⟨by rw [if_pos rfl]; exact ⟨rfl, HR1.out⟩, HG.out⟩
theorem exp_yesI {s y x : ByteArray} {k b : Nat} {w0 : World} {ad : Option Addr} {L : List Pair} {c : Nat} {w : World} (hy : y.size ≤ 1048576) (hv : ∀ i, i < L.length → (at0 L i).2.size ≤ 1048576) (hx : refs.expandR y L = (x, true)) (hE : Env w0 w b ad L) (hR : Rm w b s k ad L.length c) : Calls Tryz.prog 63 #[.pointer (some ⟨b, 0, none⟩), .string y] w fun e w' => e = .returned (.string x) ∧ Rm w' b s k ad L.length c ∧ w.grownBy w' (some b) :=
  (rd_expanded s y x true k b w0 ad L c w hy hv hx hE hR).mono (fun e w' ⟨h, hg⟩ => by
    rw [if_pos rfl] at h
    exact ⟨h.1, h.2, hg⟩)
theorem exp_noI {s y x : ByteArray} {k b : Nat} {w0 : World} {ad : Option Addr} {L : List Pair} {c : Nat} {w : World} (hy : y.size ≤ 1048576) (hv : ∀ i, i < L.length → (at0 L i).2.size ≤ 1048576) (hx : refs.expandR y L = (x, false)) (hE : Env w0 w b ad L) (hR : Rm w b s k ad L.length c) : Calls Tryz.prog 63 #[.pointer (some ⟨b, 0, none⟩), .string y] w fun e w' => e = .panicked [{ v := .iface 9 (.string ⟨#[105, 116, 32, 100, 111, 101, 115, 32, 110, 111, 116, 32, 103, 111, 32, 111, 110, 32, 115, 111]⟩), recovered := false }] ∧ w.grownBy w' (some b) :=
  (rd_expanded s y x false k b w0 ad L c w hy hv hx hE hR).mono (fun e w' ⟨h, hg⟩ => by
    rw [if_neg (by decide)] at h
    exact ⟨h, hg⟩)
/-- What stands between quotes there: the text, and the place behind. -/
def quoE (s : ByteArray) (k : Nat) : Option (ByteArray × Nat) :=
  if isAt s ⟨#[34]⟩ k = true ∨ isAt s ⟨#[39]⟩ k = true then
    match toI s (s.extract k (k + 1)) (k + 1) with
    | none => none
    | some j => if trees.hasB (s.extract (k + 1) j) ⟨#[60]⟩ = false then some (s.extract (k + 1) j, j + 1) else none
  else none
/-- The same, by the quote that stands there. -/
def quoT (s q : ByteArray) (k : Nat) : Option (ByteArray × Nat) :=
  match toI s q (k + 1) with
  | none => none
  | some j => if trees.hasB (s.extract (k + 1) j) ⟨#[60]⟩ = false then some (s.extract (k + 1) j, j + 1) else none
theorem isAt_text {s t : ByteArray} {k : Nat} (h : isAt s t k = true) : s.extract k (k + t.size) = t := by
  rw [isAt_in (isAt_le h)] at h
  exact refs.toList_eq.1 h
theorem isAt_one_text {s : ByteArray} {c : UInt8} {k : Nat} (h : isAt s ⟨#[c]⟩ k = true) : s.extract k (k + 1) = ⟨#[c]⟩ := by
  have h1 := isAt_text h
  have e : (⟨#[c]⟩ : ByteArray).size = 1 := rfl
  rw [e] at h1
  exact h1
theorem quo_two {s : ByteArray} {k : Nat} (h : isAt s ⟨#[34]⟩ k = true) : quoE s k = quoT s ⟨#[34]⟩ k := by
  unfold quoE quoT
  rw [if_pos (.inl h), isAt_one_text h]
theorem quo_one {s : ByteArray} {k : Nat} (h : isAt s ⟨#[39]⟩ k = true) : quoE s k = quoT s ⟨#[39]⟩ k := by
  unfold quoE quoT
  rw [if_pos (.inr h), isAt_one_text h]
theorem quo_none {s : ByteArray} {k : Nat} (h : isAt s ⟨#[34]⟩ k = false) (h1 : isAt s ⟨#[39]⟩ k = false) : quoE s k = none := by
  unfold quoE
  rw [if_neg (by rw [h, h1]; decide)]
theorem quoT_none {s q : ByteArray} {k : Nat} (h : toI s q (k + 1) = none) : quoT s q k = none := by unfold quoT; rw [h]
theorem quoT_bad {s q : ByteArray} {k j : Nat} (h : toI s q (k + 1) = some j) (hh : trees.hasB (s.extract (k + 1) j) ⟨#[60]⟩ = true) : quoT s q k = none := by unfold quoT; rw [h]; exact if_neg (by rw [hh]; decide)
theorem quoT_good {s q x : ByteArray} {k j : Nat} (h : toI s q (k + 1) = some j) (hx : s.extract (k + 1) j = x) (hh : trees.hasB x ⟨#[60]⟩ = false) : quoT s q k = some (x, j + 1) := by unfold quoT; rw [h, ← hx]; exact if_pos (by rw [hx]; exact hh)
/-- What takeQuoted answers. -/
def quoOk (T : TypeId) (s : ByteArray) (b : Nat) (rest : Array Value) (r : Option (ByteArray × Nat)) (w' : World) (e : Ending) : Prop :=
  match r with
  | none => ∃ x k', e = .returned (.tuple #[.string x, .bool false]) ∧ Rd T w' b s k' rest
  | some (x, j) => e = .returned (.tuple #[.string x, .bool true]) ∧ Rd T w' b s j rest
theorem quo_bad {T : TypeId} {s : ByteArray} {b : Nat} {rest : Array Value} {r : Option (ByteArray × Nat)} {w' : World} {e : Ending} {x : ByteArray} {k' : Nat} (h : r = none) (he : e = .returned (.tuple #[.string x, .bool false]) ∧ Rd T w' b s k' rest) : quoOk T s b rest r w' e := by subst h; exact ⟨x, k', he⟩
theorem quo_good {T : TypeId} {s : ByteArray} {b : Nat} {rest : Array Value} {r : Option (ByteArray × Nat)} {w' : World} {e : Ending} {x : ByteArray} {j : Nat} (h : r = some (x, j)) (he : e = .returned (.tuple #[.string x, .bool true]) ∧ Rd T w' b s j rest) : quoOk T s b rest r w' e := by subst h; exact he
theorem upOk_some {T : TypeId} {s t : ByteArray} {k b j : Nat} {rest : Array Value} {w' : World} {e : Ending} (hj : toI s t k = some j) : upOk T s t k b rest w' e ↔ (e = .returned (.tuple #[.string (s.extract k j), .bool true]) ∧ Rd T w' b s (j + t.size) rest) := by unfold upOk; rw [hj]
theorem upOk_none {T : TypeId} {s t : ByteArray} {k b : Nat} {rest : Array Value} {w' : World} {e : Ending} (hj : toI s t k = none) : upOk T s t k b rest w' e ↔ (e = .returned (.tuple #[.string ⟨#[]⟩, .bool false]) ∧ Rd T w' b s k rest) := by unfold upOk; rw [hj]
theorem up_of {T : TypeId} {s t : ByteArray} {k b j : Nat} {rest : Array Value} {w : World} (hj : toI s t k = some j) (h : Calls Tryz.prog 57 #[.pointer (some ⟨b, 0, none⟩), .string t] w fun e w' => upOk T s t k b rest w' e ∧ w.grownBy w' (some b)) : Calls Tryz.prog 57 #[.pointer (some ⟨b, 0, none⟩), .string t] w fun e w' => (e = .returned (.tuple #[.string (s.extract k j), .bool true]) ∧ Rd T w' b s (j + t.size) rest) ∧ w.grownBy w' (some b) :=
  Calls.mono h (fun e w' hh => ⟨(upOk_some hj).1 hh.1, hh.2⟩)
theorem up_ofn {T : TypeId} {s t : ByteArray} {k b : Nat} {rest : Array Value} {w : World} (hj : toI s t k = none) (h : Calls Tryz.prog 57 #[.pointer (some ⟨b, 0, none⟩), .string t] w fun e w' => upOk T s t k b rest w' e ∧ w.grownBy w' (some b)) : Calls Tryz.prog 57 #[.pointer (some ⟨b, 0, none⟩), .string t] w fun e w' => (e = .returned (.tuple #[.string ⟨#[]⟩, .bool false]) ∧ Rd T w' b s k rest) ∧ w.grownBy w' (some b) :=
  Calls.mono h (fun e w' hh => ⟨(upOk_none hj).1 hh.1, hh.2⟩)
theorem take_H (T : TypeId) (s t : ByteArray) (k b : Nat) (rest : Array Value) (w : World) (hs : s.size ≤ 1048576) (hk : k ≤ s.size) (ht : 0 < t.size) (v : Bool) (j : Nat) (hv : isAt s t k = v) (hj : isF v k t.size = j) (hR : Rd T w b s k rest) : Calls Tryz.prog 34 #[.pointer (some ⟨b, 0, none⟩), .string t] w fun e w' => e = .returned (.bool v) ∧ Rd T w' b s j rest ∧ w.grownBy w' (some b) := by
  have := cur_take T s t k b rest w hs hk ht hR
  rw [hv, hj] at this
  exact this
set_option maxRecDepth 100000 in
set_option maxHeartbeats 4000000 in
theorem cur_quoted (T : TypeId) (s : ByteArray) (k b : Nat) (rest : Array Value) (w0 w : World) (hs : s.size ≤ 1048576) (hk : k ≤ s.size) (hT : frames.MaxAt w0) (hbel : Below w0.heap.size w0 w) (hge : w0.heap.size ≤ b) (hR : Rd T w b s k rest) : Calls Tryz.prog 89 #[.pointer (some ⟨b, 0, none⟩)] w fun e w' => quoOk T s b rest (quoE s k) w' e ∧ w.grownBy w' (some b) := by
  have HR : Hid _ := hR
  have HSZ : Hid (s.size ≤ 1048576) := hs
  have HM : Hid (∀ W, w.grownBy W (some b) → frames.MaxAt W) := fun W hg => hT.below (hbel.trans ⟨hg.os, hg.tape, hg.output, hg.size, fun i hi => hg.block i (Nat.lt_of_lt_of_le hi hbel.size) (fun e => by cases e; omega)⟩)
  obtain ⟨Q, hQ⟩ : ∃ Q, quoE s k = Q := ⟨_, rfl⟩
  rw [hQ]
  cases h2 : isAt s ⟨#[34]⟩ k
  · have H1 : Hid (∀ W, Rd T W b s k rest → _) := fun W h => take_H T s ⟨#[34]⟩ k b rest W hs hk (by decide) false k h2 rfl h
    cases h1 : isAt s ⟨#[39]⟩ k
    · have H2 : Hid (∀ W, Rd T W b s k rest → _) := fun W h => take_H T s ⟨#[39]⟩ k b rest W hs hk (by decide) false k h1 rfl h
      have HN : Hid (Q = none) := hQ.symm.trans (quo_none h2 h1)
      clear hQ h1 h2 hR hT hbel
      go_enter Tryz.func89, Tryz.ntmps89
      go_wp2_with fail
      refine Calls.mono (H1.out _ HR.out) ?_
      rintro e w1 ⟨rfl, hr, hg⟩
      have HR1 : Hid _ := hr
      have HG1 : Hid _ := hg
      clear hr hg
      go_wp2_with fail
      refine Calls.mono (H2.out _ HR1.out) ?_
      rintro e w2 ⟨rfl, hr, hg⟩
      have HR2 : Hid _ := hr
      have HG2 : Hid _ := gr_trans HG1.out hg
      clear hr hg
      go_wp2
      go_ret2
      exact ⟨quo_bad HN.out ⟨rfl, HR2.out⟩, HG2.out⟩
    · have hle := isAt_le h1
      have H2 : Hid (∀ W, Rd T W b s k rest → _) := fun W h => take_H T s ⟨#[39]⟩ k b rest W hs hk (by decide) true (k + 1) h1 rfl h
      have HQ : Hid (Q = quoT s ⟨#[39]⟩ k) := hQ.symm.trans (quo_one h1)
      have H3 : Hid (∀ W, w.grownBy W (some b) → Rd T W b s (k + 1) rest → _) := fun W hg h => cur_up T s ⟨#[39]⟩ (k + 1) b rest W hs hle (by decide) (HM.out W hg) h
      clear hQ h1 h2 hR hT hbel hle
      go_enter Tryz.func89, Tryz.ntmps89
      go_wp2_with fail
      refine Calls.mono (H1.out _ HR.out) ?_
      rintro e w1 ⟨rfl, hr, hg⟩
      have HR1 : Hid _ := hr
      have HG1 : Hid _ := hg
      clear hr hg
      go_wp2_with fail
      refine Calls.mono (H2.out _ HR1.out) ?_
      rintro e w2 ⟨rfl, hr, hg⟩
      have HR2 : Hid _ := hr
      have HG2 : Hid _ := gr_trans HG1.out hg
      clear hr hg
      cases hj : toI s ⟨#[39]⟩ (k + 1) with
      | none =>
        have HN : Hid (Q = none) := HQ.out.trans (quoT_none hj)
        have H4 : Hid _ := up_ofn hj (H3.out _ HG2.out HR2.out)
        clear hj
        go_wp2_with fail
        refine Calls.mono H4.out ?_
        rintro e w3 ⟨⟨rfl, hr⟩, hg⟩
        have HR3 : Hid _ := hr
        have HG3 : Hid _ := gr_trans HG2.out hg
        clear hr hg
        go_wp2
        go_ret2
        exact ⟨quo_bad HN.out ⟨rfl, HR3.out⟩, HG3.out⟩
      | some j =>
        have H4 : Hid _ := up_of hj (H3.out _ HG2.out HR2.out)
        obtain ⟨x, hx⟩ : ∃ x, s.extract (k + 1) j = x := ⟨_, rfl⟩
        have hxz : x.size ≤ 1048576 := by have := HSZ.out; rw [← hx, ByteArray.size_extract]; omega
        rw [hx] at H4
        cases hh : trees.hasB x ⟨#[60]⟩
        · have HN : Hid (Q = some (x, j + 1)) := HQ.out.trans (quoT_good hj hx hh)
          have H5 : Hid (∀ W, frames.MaxAt W → _) := fun W h => trees.contains_H x ⟨#[60]⟩ false hxz hh W h
          clear hj hx hh
          go_wp2_with fail
          refine Calls.mono H4.out ?_
          rintro e w3 ⟨⟨rfl, hr⟩, hg⟩
          have HR3 : Hid _ := hr
          have HG3 : Hid _ := gr_trans HG2.out hg
          clear hr hg
          go_wp2_with fail
          refine Calls.mono (H5.out _ (HM.out _ HG3.out)) ?_
          rintro e w4 ⟨rfl, hb⟩
          have HR4 : Hid _ := HR3.out.below hb
          have HG4 : Hid _ := gr_trans HG3.out (gr_below hb)
          clear hb
          go_wp2
          go_ret2
          exact ⟨quo_good HN.out ⟨rfl, HR4.out⟩, HG4.out⟩
        · have HN : Hid (Q = none) := HQ.out.trans (quoT_bad hj (by rw [hx]; exact hh))
          have H5 : Hid (∀ W, frames.MaxAt W → _) := fun W h => trees.contains_H x ⟨#[60]⟩ true hxz hh W h
          clear hj hx hh
          go_wp2_with fail
          refine Calls.mono H4.out ?_
          rintro e w3 ⟨⟨rfl, hr⟩, hg⟩
          have HR3 : Hid _ := hr
          have HG3 : Hid _ := gr_trans HG2.out hg
          clear hr hg
          go_wp2_with fail
          refine Calls.mono (H5.out _ (HM.out _ HG3.out)) ?_
          rintro e w4 ⟨rfl, hb⟩
          have HR4 : Hid _ := HR3.out.below hb
          have HG4 : Hid _ := gr_trans HG3.out (gr_below hb)
          clear hb
          go_wp2
          go_ret2
          exact ⟨quo_bad HN.out ⟨rfl, HR4.out⟩, HG4.out⟩
  · have hle := isAt_le h2
    have H1 : Hid (∀ W, Rd T W b s k rest → _) := fun W h => take_H T s ⟨#[34]⟩ k b rest W hs hk (by decide) true (k + 1) h2 rfl h
    have HQ : Hid (Q = quoT s ⟨#[34]⟩ k) := hQ.symm.trans (quo_two h2)
    have H3 : Hid (∀ W, w.grownBy W (some b) → Rd T W b s (k + 1) rest → _) := fun W hg h => cur_up T s ⟨#[34]⟩ (k + 1) b rest W hs hle (by decide) (HM.out W hg) h
    clear hQ h2 hR hT hbel hle
    go_enter Tryz.func89, Tryz.ntmps89
    go_wp2_with fail
    refine Calls.mono (H1.out _ HR.out) ?_
    rintro e w2 ⟨rfl, hr, hg⟩
    have HR2 : Hid _ := hr
    have HG2 : Hid _ := hg
    clear hr hg
    cases hj : toI s ⟨#[34]⟩ (k + 1) with
    | none =>
      have HN : Hid (Q = none) := HQ.out.trans (quoT_none hj)
      have H4 : Hid _ := up_ofn hj (H3.out _ HG2.out HR2.out)
      clear hj
      go_wp2_with fail
      refine Calls.mono H4.out ?_
      rintro e w3 ⟨⟨rfl, hr⟩, hg⟩
      have HR3 : Hid _ := hr
      have HG3 : Hid _ := gr_trans HG2.out hg
      clear hr hg
      go_wp2
      go_ret2
      exact ⟨quo_bad HN.out ⟨rfl, HR3.out⟩, HG3.out⟩
    | some j =>
      have H4 : Hid _ := up_of hj (H3.out _ HG2.out HR2.out)
      obtain ⟨x, hx⟩ : ∃ x, s.extract (k + 1) j = x := ⟨_, rfl⟩
      have hxz : x.size ≤ 1048576 := by have := HSZ.out; rw [← hx, ByteArray.size_extract]; omega
      rw [hx] at H4
      cases hh : trees.hasB x ⟨#[60]⟩
      · have HN : Hid (Q = some (x, j + 1)) := HQ.out.trans (quoT_good hj hx hh)
        have H5 : Hid (∀ W, frames.MaxAt W → _) := fun W h => trees.contains_H x ⟨#[60]⟩ false hxz hh W h
        clear hj hx hh
        go_wp2_with fail
        refine Calls.mono H4.out ?_
        rintro e w3 ⟨⟨rfl, hr⟩, hg⟩
        have HR3 : Hid _ := hr
        have HG3 : Hid _ := gr_trans HG2.out hg
        clear hr hg
        go_wp2_with fail
        refine Calls.mono (H5.out _ (HM.out _ HG3.out)) ?_
        rintro e w4 ⟨rfl, hb⟩
        have HR4 : Hid _ := HR3.out.below hb
        have HG4 : Hid _ := gr_trans HG3.out (gr_below hb)
        clear hb
        go_wp2
        go_ret2
        exact ⟨quo_good HN.out ⟨rfl, HR4.out⟩, HG4.out⟩
      · have HN : Hid (Q = none) := HQ.out.trans (quoT_bad hj (by rw [hx]; exact hh))
        have H5 : Hid (∀ W, frames.MaxAt W → _) := fun W h => trees.contains_H x ⟨#[60]⟩ true hxz hh W h
        clear hj hx hh
        go_wp2_with fail
        refine Calls.mono H4.out ?_
        rintro e w3 ⟨⟨rfl, hr⟩, hg⟩
        have HR3 : Hid _ := hr
        have HG3 : Hid _ := gr_trans HG2.out hg
        clear hr hg
        go_wp2_with fail
        refine Calls.mono (H5.out _ (HM.out _ HG3.out)) ?_
        rintro e w4 ⟨rfl, hb⟩
        have HR4 : Hid _ := HR3.out.below hb
        have HG4 : Hid _ := gr_trans HG3.out (gr_below hb)
        clear hb
        go_wp2
        go_ret2
        exact ⟨quo_bad HN.out ⟨rfl, HR4.out⟩, HG4.out⟩
end Go.Proofs.YtekbpekfomblbaaGreatDoor.cuts
namespace Go.Proofs.YtekbpekfomblbaaGreatDoor.cuts
open Go.ChangeShapes Go.WideShapes Go.ChangeAt Go.RowKit
open names (splitT nameE)
open marks (blanksE)
open pairs (Pair at0 PairsAt)
open trees (Rng Out Bset)
set_option linter.unusedVariables false
/-- What val answers. -/
def valP (s : ByteArray) (k : Nat) (L : List Pair) : Option (ByteArray × Nat) :=
  match quoE s k with
  | none => none
  | some (x, j) => if (refs.expandR (unbl.plain x) L).2 = true then some ((refs.expandR (unbl.plain x) L).1, j) else none
theorem valP_none {s : ByteArray} {k : Nat} {L : List Pair} (h : quoE s k = none) : valP s k L = none := by unfold valP; rw [h]
theorem valP_some {s x y : ByteArray} {k j : Nat} {L : List Pair} (h : quoE s k = some (x, j)) (hy : refs.expandR (unbl.plain x) L = (y, true)) : valP s k L = some (y, j) := by unfold valP; rw [h]; simp only [hy, if_true]
theorem valP_bad {s x y : ByteArray} {k j : Nat} {L : List Pair} (h : quoE s k = some (x, j)) (hy : refs.expandR (unbl.plain x) L = (y, false)) : valP s k L = none := by unfold valP; rw [h]; simp only [hy]; rfl
theorem valP_valE (s : ByteArray) (k : Nat) (L : List Pair) : valP s k L = if isAt s ⟨#[34]⟩ k = true ∨ isAt s ⟨#[39]⟩ k = true then valE s k L else none := by
  unfold valP quoE valE
  by_cases hq : isAt s ⟨#[34]⟩ k = true ∨ isAt s ⟨#[39]⟩ k = true
  · rw [if_pos hq, if_pos hq]
    cases hj : toI s (s.extract k (k + 1)) (k + 1) with
    | none => rfl
    | some j =>
      simp only
      by_cases hh : trees.hasB (s.extract (k + 1) j) ⟨#[60]⟩ = false
      · rw [if_pos hh]
        simp only [hh, true_and]
      · rw [if_neg hh]
        rw [if_neg (fun h => hh h.1)]
  · rw [if_neg hq, if_neg hq]
theorem rawE_no {s : ByteArray} {a : Nat} {L : List Pair} (h : ¬ (splitT (s.extract a (nameE s a))).2.2 = true) : rawE s a L = none := by unfold rawE; rw [if_neg h]
theorem rawE_eq {s : ByteArray} {a f : Nat} {L : List Pair} (hf : blanksE s (nameE s a) = f) (h : isAt s ⟨#[61]⟩ f = false) : rawE s a L = none := by
  unfold rawE
  rw [hf, h]
  split <;> rfl
theorem rawE_val {s n : ByteArray} {a f g : Nat} {L : List Pair} (hok : (splitT n).2.2 = true) (hn : s.extract a (nameE s a) = n) (hf : blanksE s (nameE s a) = f) (h : isAt s ⟨#[61]⟩ f = true) (hg : blanksE s (f + 1) = g) : rawE s a L = match valP s g L with | none => none | some (x, j) => some (n, x, j) := by
  unfold rawE
  rw [hn, if_pos hok, hf, if_pos h, hg, valP_valE]
  by_cases hq : isAt s ⟨#[34]⟩ g = true ∨ isAt s ⟨#[39]⟩ g = true
  · rw [if_pos hq, if_pos hq]
    cases valE s g L with
    | none => rfl
    | some y => obtain ⟨x, j⟩ := y; rfl
  · rw [if_neg hq, if_neg hq]
theorem gr_obj {w w' : World} {b g : Nat} {o : Obj} (h : w.grownBy w' (some b)) (hx : w.heap[g]? = some o) (hne : g ≠ b) : w'.heap[g]? = some o := (h.block g (lt_heap hx) (fun e => hne (Option.some.inj e))).trans hx
theorem quoE_le {s x : ByteArray} {k j : Nat} (h : quoE s k = some (x, j)) (hs : s.size ≤ 1048576) : x.size ≤ 1048576 ∧ j ≤ s.size ∧ k < j := by
  unfold quoE at h
  split at h
  · rename_i hq
    have hk : k + 1 ≤ s.size := by
      rcases hq with hq | hq
      · exact isAt_le hq
      · exact isAt_le hq
    cases hj : toI s (s.extract k (k + 1)) (k + 1) with
    | none => rw [hj] at h; cases h
    | some i =>
      rw [hj] at h
      simp only at h
      have h1 := toF_ge hj
      rw [one_size hk] at h1
      split at h
      · cases h
        exact ⟨by rw [ByteArray.size_extract]; omega, by omega, by omega⟩
      · cases h
  · cases h
theorem blanks_H (T : TypeId) (s : ByteArray) (k j b : Nat) (rest : Array Value) (w : World) (v : Bool) (hs : s.size ≤ 1048576) (hk : k ≤ s.size) (hj : blanksE s k = j) (hv : decide (k < j) = v) (hR : Rd T w b s k rest) : Calls Tryz.prog 59 #[.pointer (some ⟨b, 0, none⟩)] w fun e w' => e = .returned (.bool v) ∧ Rd T w' b s j rest ∧ w.grownBy w' (some b) := by
  have := cur_blanks T s k b rest w hs hk hR
  rw [hj, hv] at this
  exact this
theorem quo_H {T : TypeId} {s : ByteArray} {k b : Nat} {rest : Array Value} {w0 w : World} {x : ByteArray} {j : Nat} (hq : quoE s k = some (x, j)) (hs : s.size ≤ 1048576) (hk : k ≤ s.size) (hT : frames.MaxAt w0) (hbel : Below w0.heap.size w0 w) (hge : w0.heap.size ≤ b) (hR : Rd T w b s k rest) : Calls Tryz.prog 89 #[.pointer (some ⟨b, 0, none⟩)] w fun e w' => e = .returned (.tuple #[.string x, .bool true]) ∧ Rd T w' b s j rest ∧ w.grownBy w' (some b) := by
  have := cur_quoted T s k b rest w0 w hs hk hT hbel hge hR
  rw [hq] at this
  exact Calls.mono this (fun e w' hh => ⟨hh.1.1, hh.1.2, hh.2⟩)
theorem quo_N {T : TypeId} {s : ByteArray} {k b : Nat} {rest : Array Value} {w0 w : World} (hq : quoE s k = none) (hs : s.size ≤ 1048576) (hk : k ≤ s.size) (hT : frames.MaxAt w0) (hbel : Below w0.heap.size w0 w) (hge : w0.heap.size ≤ b) (hR : Rd T w b s k rest) : Calls Tryz.prog 89 #[.pointer (some ⟨b, 0, none⟩)] w fun e w' => (∃ x, e = .returned (.tuple #[.string x, .bool false])) ∧ w.grownBy w' (some b) := by
  have := cur_quoted T s k b rest w0 w hs hk hT hbel hge hR
  rw [hq] at this
  exact Calls.mono this (fun e w' hh => by
    obtain ⟨⟨x, k', h1, h2⟩, hg⟩ := hh
    exact ⟨⟨x, h1⟩, hg⟩)
set_option maxRecDepth 100000 in
set_option maxHeartbeats 2000000 in
theorem val_no (s : ByteArray) (k b : Nat) (w0 : World) (ad : Option Addr) (L : List Pair) (c : Nat) (w : World) (hs : s.size ≤ 1048576) (hk : k ≤ s.size) (hv : ∀ i, i < L.length → (at0 L i).2.size ≤ 1048576) (hp : valP s k L = none) (hE : Env w0 w b ad L) (hR : Rm w b s k ad L.length c) : Calls Tryz.prog 78 #[.pointer (some ⟨b, 0, none⟩)] w fun e w' => e = .panicked [{ v := .iface 9 (.string ⟨#[105, 116, 32, 100, 111, 101, 115, 32, 110, 111, 116, 32, 103, 111, 32, 111, 110, 32, 115, 111]⟩), recovered := false }] ∧ w.grownBy w' (some b) := by
  have HE : Hid _ := hE
  cases hq : quoE s k with
  | none =>
    have H1 : Hid _ := quo_N hq hs hk hE.tab.max hE.bel hE.ge hR
    clear hq hp hE hR hv
    go_enter Tryz.func78, Tryz.ntmps78
    go_wp2_with fail
    refine Calls.mono H1.out ?_
    rintro e w1 ⟨⟨x, rfl⟩, hg⟩
    have HG1 : Hid _ := hg
    clear hg
    go_wp2_with (go_at_call 20; refine Calls.mono (must_no _ _) ?_; rintro e w_ ⟨rfl, hw_⟩; have hw3 := hw_.symm; clear hw_; subst hw3)
    exact ⟨rfl, rfl, HG1.out⟩
  | some y =>
    obtain ⟨x, j⟩ := y
    obtain ⟨hxz, hjs, hkj⟩ := quoE_le hq hs
    obtain ⟨z, ok, hz⟩ : ∃ z ok, refs.expandR (unbl.plain x) L = (z, ok) := ⟨_, _, rfl⟩
    cases ok
    · have H1 : Hid _ := quo_H hq hs hk hE.tab.max hE.bel hE.ge hR
      have H2 : Hid (∀ W, _) := fun W => unbl.impl_plain x W (by unfold maxLen; omega)
      have hpz : (unbl.plain x).size ≤ 1048576 := by rw [unbl.plain_size]; exact hxz
      have H3 : Hid (∀ W, Env w0 W b ad L → Rm W b s j ad L.length c → _) := fun W h1 h2 => exp_noI hpz hv hz h1 h2
      clear hq hp hE hR hz hv
      go_enter Tryz.func78, Tryz.ntmps78
      go_wp2_with fail
      refine Calls.mono H1.out ?_
      rintro e w1 ⟨rfl, hr, hg⟩
      have HR1 : Hid _ := hr
      have HG1 : Hid _ := hg
      clear hr hg
      go_wp2_with (first | (go_at_call 20; refine Calls.mono (must_yes _ _) ?_; rintro e w_ ⟨rfl, hw_⟩; have hw3 := hw_.symm; clear hw_; subst hw3) | fail)
      refine Calls.mono (H2.out _) ?_
      rintro e w2 ⟨rfl, hb⟩
      have HR2 : Hid _ := HR1.out.below hb
      have HG2 : Hid _ := gr_trans HG1.out (gr_below hb)
      clear hb
      go_wp2_with fail
      refine Calls.mono (H3.out _ (HE.out.step HG2.out) HR2.out) ?_
      rintro e w3 ⟨rfl, hg⟩
      have HG3 : Hid _ := gr_trans HG2.out hg
      clear hg
      go_wp2
      exact ⟨rfl, rfl, HG3.out⟩
    · rw [valP_some hq hz] at hp
      cases hp
set_option maxRecDepth 100000 in
set_option maxHeartbeats 2000000 in
theorem val_yes (s z : ByteArray) (k j b : Nat) (w0 : World) (ad : Option Addr) (L : List Pair) (c : Nat) (w : World) (hs : s.size ≤ 1048576) (hk : k ≤ s.size) (hv : ∀ i, i < L.length → (at0 L i).2.size ≤ 1048576) (hp : valP s k L = some (z, j)) (hE : Env w0 w b ad L) (hR : Rm w b s k ad L.length c) : Calls Tryz.prog 78 #[.pointer (some ⟨b, 0, none⟩)] w fun e w' => e = .returned (.string z) ∧ Rm w' b s j ad L.length c ∧ w.grownBy w' (some b) := by
  have HE : Hid _ := hE
  cases hq : quoE s k with
  | none => rw [valP_none hq] at hp; cases hp
  | some y =>
    obtain ⟨x, j'⟩ := y
    obtain ⟨hxz, hjs, hkj⟩ := quoE_le hq hs
    obtain ⟨z', ok, hz⟩ : ∃ z ok, refs.expandR (unbl.plain x) L = (z, ok) := ⟨_, _, rfl⟩
    cases ok
    · rw [valP_bad hq hz] at hp; cases hp
    · rw [valP_some hq hz] at hp
      simp only [Option.some.injEq, Prod.mk.injEq] at hp
      obtain ⟨rfl, rfl⟩ := hp
      have H1 : Hid _ := quo_H hq hs hk hE.tab.max hE.bel hE.ge hR
      have H2 : Hid (∀ W, _) := fun W => unbl.impl_plain x W (by unfold maxLen; omega)
      have hpz : (unbl.plain x).size ≤ 1048576 := by rw [unbl.plain_size]; exact hxz
      have H3 : Hid (∀ W, Env w0 W b ad L → Rm W b s j' ad L.length c → _) := fun W h1 h2 => exp_yesI hpz hv hz h1 h2
      clear hq hE hR hz hv
      go_enter Tryz.func78, Tryz.ntmps78
      go_wp2_with fail
      refine Calls.mono H1.out ?_
      rintro e w1 ⟨rfl, hr, hg⟩
      have HR1 : Hid _ := hr
      have HG1 : Hid _ := hg
      clear hr hg
      go_wp2_with (first | (go_at_call 20; refine Calls.mono (must_yes _ _) ?_; rintro e w_ ⟨rfl, hw_⟩; have hw3 := hw_.symm; clear hw_; subst hw3) | fail)
      refine Calls.mono (H2.out _) ?_
      rintro e w2 ⟨rfl, hb⟩
      have HR2 : Hid _ := HR1.out.below hb
      have HG2 : Hid _ := gr_trans HG1.out (gr_below hb)
      clear hb
      go_wp2_with fail
      refine Calls.mono (H3.out _ (HE.out.step HG2.out) HR2.out) ?_
      rintro e w3 ⟨rfl, hr, hg⟩
      have HR3 : Hid _ := hr
      have HG3 : Hid _ := gr_trans HG2.out hg
      clear hr hg
      go_wp2
      go_ret
      exact ⟨rfl, HR3.out, HG3.out⟩
theorem rd_set2 {T : TypeId} {w : World} {b g i k : Nat} {u : Value} {s : ByteArray} {rest : Array Value} (h : Rd T w b s k rest) (hne : g ≠ b) : Rd T (w.setCell ⟨g, i, none⟩ u) b s k rest := ⟨(Below.heap_setCell w ⟨g, i, none⟩ u b (Ne.symm hne)).trans h.blk⟩
theorem gr_five {w W : World} {b g : Nat} {u0 u1 u2 u3 u4 : Value} (h : w.grownBy W (some b)) (hg : w.heap.size ≤ g) : w.grownBy (((((W.setCell ⟨g, 0, none⟩ u0).setCell ⟨g, 1, none⟩ u1).setCell ⟨g, 2, none⟩ u2).setCell ⟨g, 3, none⟩ u3).setCell ⟨g, 4, none⟩ u4) (some b) := gr_set2 (gr_set2 (gr_set2 (gr_set2 (gr_set2 h hg) hg) hg) hg) hg
theorem rd_five {T : TypeId} {W : World} {b g k : Nat} {u0 u1 u2 u3 u4 : Value} {s : ByteArray} {rest : Array Value} (h : Rd T W b s k rest) (hne : g ≠ b) : Rd T (((((W.setCell ⟨g, 0, none⟩ u0).setCell ⟨g, 1, none⟩ u1).setCell ⟨g, 2, none⟩ u2).setCell ⟨g, 3, none⟩ u3).setCell ⟨g, 4, none⟩ u4) b s k rest := rd_set2 (rd_set2 (rd_set2 (rd_set2 (rd_set2 h hne) hne) hne) hne) hne
/-- A mark whose text may stand. -/
def chk (r : Option (MarkV × Nat)) : Option (MarkV × Nat) := match r with | none => none | some (m, j) => if refs.textB m.text = true then some (m, j) else none
theorem markT_chk (s : ByteArray) (a : Nat) (L : List Pair) : markT s a L = chk (markE s a L) := by
  unfold markT chk
  cases markE s a L with
  | none => rfl
  | some y => obtain ⟨m, j⟩ := y; rfl
theorem chk_yes {r : Option (MarkV × Nat)} {m : MarkV} {j : Nat} (h : r = some (m, j)) (ht : refs.textB m.text = true) : chk r = some (m, j) := by subst h; exact if_pos ht
theorem chk_no {r : Option (MarkV × Nat)} {m : MarkV} {j : Nat} (h : r = some (m, j)) (ht : refs.textB m.text = false) : chk r = none := by subst h; exact if_neg (by rw [ht]; decide)
theorem chk_none {r : Option (MarkV × Nat)} (h : r = none) : chk r = none := by subst h; rfl
theorem text_nil : refs.textB ⟨#[]⟩ = true := by decide +kernel
/-- What mark and its parts end with. -/
def mOk (r : Option (MarkV × Nat)) (s : ByteArray) (b : Nat) (ad : Option Addr) (n c : Nat) (w w' : World) (e : Ending) : Prop :=
  match r with
  | none => gaveUp e
  | some (m, j) => (∃ a' c', e = .returned (mkV m a' c') ∧ trees.OwnP w' a' m.raws (Rng w w')) ∧ Rm w' b s j ad n c
theorem m_none {r : Option (MarkV × Nat)} {s : ByteArray} {b : Nat} {ad : Option Addr} {n c : Nat} {w w' : World} {e : Ending} (h : r = none) (he : gaveUp e) : mOk r s b ad n c w w' e := by subst h; exact he
theorem m_plain {r : Option (MarkV × Nat)} {s : ByteArray} {b : Nat} {ad : Option Addr} {n c : Nat} {w w' : World} {e : Ending} {k : Int} {x y : ByteArray} {bb : Bool} {j : Nat} (h : r = some (⟨k, x, [], bb, y⟩, j)) (he : e = .returned (.agg #[.int .i64 k, .string x, .slice none 0 0, .bool bb, .string y])) (hR : Rm w' b s j ad n c) : mOk r s b ad n c w w' e := by
  subst h
  exact ⟨⟨none, 0, he, fun h0 => absurd h0 (Nat.lt_irrefl _)⟩, hR⟩
set_option maxRecDepth 100000 in
set_option maxHeartbeats 4000000 in
theorem raw_no (s : ByteArray) (k b : Nat) (w0 : World) (ad : Option Addr) (L : List Pair) (c : Nat) (w : World) (hs : s.size ≤ 1048576) (hv : ∀ i, i < L.length → (at0 L i).2.size ≤ 1048576) (hk : k ≤ s.size) (hp : rawE s k L = none) (hE : Env w0 w b ad L) (hR : Rm w b s k ad L.length c) : Calls Tryz.prog 60 #[.pointer (some ⟨b, 0, none⟩)] w fun e w' => e = .panicked [{ v := .iface 9 (.string ⟨#[105, 116, 32, 100, 111, 101, 115, 32, 110, 111, 116, 32, 103, 111, 32, 111, 110, 32, 115, 111]⟩), recovered := false }] ∧ w.grownBy w' (some b) := by
  have HE0 : Hid (Env w0 w b ad L) := hE
  have HR0 : Hid (Rm w b s k ad L.length c) := hR
  have hbl := hR.lt
  have hne : w.heap.size ≠ b := by omega
  have hkl := nameE_le s k hk
  obtain ⟨k1, hk1⟩ : ∃ k1, nameE s k = k1 := ⟨_, rfl⟩
  rw [hk1] at hkl
  obtain ⟨n, hn⟩ : ∃ n, s.extract k k1 = n := ⟨_, rfl⟩
  by_cases hok : (splitT n).2.2 = true
  · have H1 : Hid (∀ W, Env w0 W b ad L → Rm W b s k ad L.length c → _) := fun W h1 h2 => name_yes s n k k1 b ad L.length c W hs hk hk1 hn hok h1.xt.tab.name h2
    obtain ⟨f, hf⟩ : ∃ f, blanksE s k1 = f := ⟨_, rfl⟩
    have hfl := blanksE_le s k1 hkl
    rw [hf] at hfl
    have H2 : Hid (∀ W, Env w0 W b ad L → Rm W b s k1 ad L.length c → _) := fun W h1 h2 => blanks_H _ s k1 f b _ W _ hs hkl hf rfl h2
    cases h61 : isAt s ⟨#[61]⟩ f
    · have H3 : Hid (∀ W, Env w0 W b ad L → Rm W b s f ad L.length c → _) := fun W h1 h2 => take_H _ s ⟨#[61]⟩ f b _ W hs hfl (by decide) false f h61 rfl h2
      clear hE hR hp hk1 hn hok hf h61
      go_enter Tryz.func60, Tryz.ntmps60
      go_wp2_with fail
      refine Calls.mono (H1.out _ (HE0.out.below ((Below.refl _ _).alloc (Nat.le_refl _) _)) (HR0.out.below ((Below.refl _ _).alloc (Nat.le_refl _) _))) ?_
      rintro e w1 ⟨rfl, hr, hg⟩
      have HR1 : Hid _ := hr
      have HG1 : Hid (w.grownBy w1 (some b)) := gr_from hg
      have HX1 : Hid _ := gr_obj hg (heap_alloc_new w _) hne
      clear hg hr
      go_wp2_with fail
      refine Calls.mono (H2.out _ (HE0.out.step HG1.out) HR1.out) ?_
      rintro e w2 ⟨rfl, hr, hg⟩
      have HR2 : Hid _ := hr
      have HG2 : Hid (w.grownBy w2 (some b)) := gr_trans HG1.out hg
      have HX2 : Hid _ := gr_obj hg HX1.out hne
      clear hg hr
      go_wp2_with fail
      refine Calls.mono (H3.out _ (HE0.out.step HG2.out) HR2.out) ?_
      rintro e w3 ⟨rfl, hr, hg⟩
      have HR3 : Hid _ := hr
      have HG3 : Hid (w.grownBy w3 (some b)) := gr_trans HG2.out hg
      have HX3 : Hid _ := gr_obj hg HX2.out hne
      clear hg hr
      go_wp2_with (go_at_call 20; refine Calls.mono (must_no _ _) ?_; rintro e w_ ⟨rfl, hw_⟩; have hw3 := hw_.symm; clear hw_; subst hw3)
      exact ⟨rfl, rfl, HG3.out⟩
    · have hfl1 : f + 1 ≤ s.size := isAt_le h61
      have H3 : Hid (∀ W, Env w0 W b ad L → Rm W b s f ad L.length c → _) := fun W h1 h2 => take_H _ s ⟨#[61]⟩ f b _ W hs hfl (by decide) true (f + 1) h61 rfl h2
      obtain ⟨g, hg0⟩ : ∃ g, blanksE s (f + 1) = g := ⟨_, rfl⟩
      have hgl := blanksE_le s (f + 1) hfl1
      rw [hg0] at hgl
      have H4 : Hid (∀ W, Env w0 W b ad L → Rm W b s (f + 1) ad L.length c → _) := fun W h1 h2 => blanks_H _ s (f + 1) g b _ W _ hs hfl1 hg0 rfl h2
      rw [rawE_val hok (by rw [hk1]; exact hn) (by rw [hk1]; exact hf) h61 hg0] at hp
      cases hvp : valP s g L with
      | some y => obtain ⟨x, j⟩ := y; rw [hvp] at hp; cases hp
      | none =>
        have H5 : Hid (∀ W, Env w0 W b ad L → Rm W b s g ad L.length c → _) := fun W h1 h2 => val_no s g b w0 ad L c W hs hgl hv hvp h1 h2
        clear hE hR hp hk1 hn hok hf h61 hg0 hvp hv
        go_enter Tryz.func60, Tryz.ntmps60
        go_wp2_with fail
        refine Calls.mono (H1.out _ (HE0.out.below ((Below.refl _ _).alloc (Nat.le_refl _) _)) (HR0.out.below ((Below.refl _ _).alloc (Nat.le_refl _) _))) ?_
        rintro e w1 ⟨rfl, hr, hg⟩
        have HR1 : Hid _ := hr
        have HG1 : Hid (w.grownBy w1 (some b)) := gr_from hg
        have HX1 : Hid _ := gr_obj hg (heap_alloc_new w _) hne
        clear hg hr
        go_wp2_with fail
        refine Calls.mono (H2.out _ (HE0.out.step HG1.out) HR1.out) ?_
        rintro e w2 ⟨rfl, hr, hg⟩
        have HR2 : Hid _ := hr
        have HG2 : Hid (w.grownBy w2 (some b)) := gr_trans HG1.out hg
        have HX2 : Hid _ := gr_obj hg HX1.out hne
        clear hg hr
        go_wp2_with fail
        refine Calls.mono (H3.out _ (HE0.out.step HG2.out) HR2.out) ?_
        rintro e w3 ⟨rfl, hr, hg⟩
        have HR3 : Hid _ := hr
        have HG3 : Hid (w.grownBy w3 (some b)) := gr_trans HG2.out hg
        have HX3 : Hid _ := gr_obj hg HX2.out hne
        clear hg hr
        go_wp2_with (first | (go_at_call 20; refine Calls.mono (must_yes _ _) ?_; rintro e w_ ⟨rfl, hw_⟩; have hw3 := hw_.symm; clear hw_; subst hw3) | fail)
        refine Calls.mono (H4.out _ (HE0.out.step HG3.out) HR3.out) ?_
        rintro e w4 ⟨rfl, hr, hg⟩
        have HR4 : Hid _ := hr
        have HG4 : Hid (w.grownBy w4 (some b)) := gr_trans HG3.out hg
        have HX4 : Hid _ := gr_obj hg HX3.out hne
        clear hg hr
        go_wp2_with fail
        refine Calls.mono (H5.out _ (HE0.out.step HG4.out) HR4.out) ?_
        rintro e w5 ⟨rfl, hg⟩
        have HG5 : Hid (w.grownBy w5 (some b)) := gr_trans HG4.out hg
        clear hg
        go_wp2
        exact ⟨rfl, rfl, HG5.out⟩
  · have H1 : Hid (∀ W, Env w0 W b ad L → Rm W b s k ad L.length c → _) := fun W h1 h2 => name_no s n k k1 b ad L.length c W hs hk hk1 hn hok h1.xt.tab.name h2
    clear hE hR hp hk1 hn hok hv
    go_enter Tryz.func60, Tryz.ntmps60
    go_wp2_with fail
    refine Calls.mono (H1.out _ (HE0.out.below ((Below.refl _ _).alloc (Nat.le_refl _) _)) (HR0.out.below ((Below.refl _ _).alloc (Nat.le_refl _) _))) ?_
    rintro e w1 ⟨rfl, hg⟩
    have HG1 : Hid (w.grownBy w1 (some b)) := gr_from hg
    clear hg
    go_wp2
    exact ⟨rfl, rfl, HG1.out⟩
set_option maxRecDepth 100000 in
set_option maxHeartbeats 4000000 in
theorem raw_yes (s : ByteArray) (k b : Nat) (w0 : World) (ad : Option Addr) (L : List Pair) (c : Nat) (w : World) (hs : s.size ≤ 1048576) (hv : ∀ i, i < L.length → (at0 L i).2.size ≤ 1048576) (n x : ByteArray) (j : Nat) (hk : k ≤ s.size) (hp : rawE s k L = some (n, x, j)) (hE : Env w0 w b ad L) (hR : Rm w b s k ad L.length c) : Calls Tryz.prog 60 #[.pointer (some ⟨b, 0, none⟩)] w fun e w' => e = .returned (.agg #[.string n, .string x]) ∧ Rm w' b s j ad L.length c ∧ w.grownBy w' (some b) := by
  have HE0 : Hid (Env w0 w b ad L) := hE
  have HR0 : Hid (Rm w b s k ad L.length c) := hR
  have hbl := hR.lt
  have hne : w.heap.size ≠ b := by omega
  have hkl := nameE_le s k hk
  obtain ⟨k1, hk1⟩ : ∃ k1, nameE s k = k1 := ⟨_, rfl⟩
  rw [hk1] at hkl
  obtain ⟨n', hn⟩ : ∃ n, s.extract k k1 = n := ⟨_, rfl⟩
  by_cases hok : (splitT n').2.2 = true
  · obtain ⟨f, hf⟩ : ∃ f, blanksE s k1 = f := ⟨_, rfl⟩
    have hfl := blanksE_le s k1 hkl
    rw [hf] at hfl
    cases h61 : isAt s ⟨#[61]⟩ f
    · rw [rawE_eq (by rw [hk1]; exact hf) h61] at hp; cases hp
    · have hfl1 : f + 1 ≤ s.size := isAt_le h61
      obtain ⟨g, hg0⟩ : ∃ g, blanksE s (f + 1) = g := ⟨_, rfl⟩
      have hgl := blanksE_le s (f + 1) hfl1
      rw [hg0] at hgl
      rw [rawE_val hok (by rw [hk1]; exact hn) (by rw [hk1]; exact hf) h61 hg0] at hp
      cases hvp : valP s g L with
      | none => rw [hvp] at hp; cases hp
      | some y =>
        obtain ⟨x', j'⟩ := y
        rw [hvp] at hp
        simp only [Option.some.injEq, Prod.mk.injEq] at hp
        obtain ⟨rfl, rfl, rfl⟩ := hp
        have H1 : Hid (∀ W, Env w0 W b ad L → Rm W b s k ad L.length c → _) := fun W h1 h2 => name_yes s n' k k1 b ad L.length c W hs hk hk1 hn hok h1.xt.tab.name h2
        have H2 : Hid (∀ W, Env w0 W b ad L → Rm W b s k1 ad L.length c → _) := fun W h1 h2 => blanks_H _ s k1 f b _ W _ hs hkl hf rfl h2
        have H3 : Hid (∀ W, Env w0 W b ad L → Rm W b s f ad L.length c → _) := fun W h1 h2 => take_H _ s ⟨#[61]⟩ f b _ W hs hfl (by decide) true (f + 1) h61 rfl h2
        have H4 : Hid (∀ W, Env w0 W b ad L → Rm W b s (f + 1) ad L.length c → _) := fun W h1 h2 => blanks_H _ s (f + 1) g b _ W _ hs hfl1 hg0 rfl h2
        have H5 : Hid (∀ W, Env w0 W b ad L → Rm W b s g ad L.length c → _) := fun W h1 h2 => val_yes s x' g j' b w0 ad L c W hs hgl hv hvp h1 h2
        clear hE hR hk1 hn hok hf h61 hg0 hvp hv
        go_enter Tryz.func60, Tryz.ntmps60
        go_wp2_with fail
        refine Calls.mono (H1.out _ (HE0.out.below ((Below.refl _ _).alloc (Nat.le_refl _) _)) (HR0.out.below ((Below.refl _ _).alloc (Nat.le_refl _) _))) ?_
        rintro e w1 ⟨rfl, hr, hg⟩
        have HR1 : Hid _ := hr
        have HG1 : Hid (w.grownBy w1 (some b)) := gr_from hg
        have HX1 : Hid _ := gr_obj hg (heap_alloc_new w _) hne
        clear hg hr
        go_wp2_with fail
        refine Calls.mono (H2.out _ (HE0.out.step HG1.out) HR1.out) ?_
        rintro e w2 ⟨rfl, hr, hg⟩
        have HR2 : Hid _ := hr
        have HG2 : Hid (w.grownBy w2 (some b)) := gr_trans HG1.out hg
        have HX2 : Hid _ := gr_obj hg HX1.out hne
        clear hg hr
        go_wp2_with fail
        refine Calls.mono (H3.out _ (HE0.out.step HG2.out) HR2.out) ?_
        rintro e w3 ⟨rfl, hr, hg⟩
        have HR3 : Hid _ := hr
        have HG3 : Hid (w.grownBy w3 (some b)) := gr_trans HG2.out hg
        have HX3 : Hid _ := gr_obj hg HX2.out hne
        clear hg hr
        go_wp2_with (first | (go_at_call 20; refine Calls.mono (must_yes _ _) ?_; rintro e w_ ⟨rfl, hw_⟩; have hw3 := hw_.symm; clear hw_; subst hw3) | fail)
        refine Calls.mono (H4.out _ (HE0.out.step HG3.out) HR3.out) ?_
        rintro e w4 ⟨rfl, hr, hg⟩
        have HR4 : Hid _ := hr
        have HG4 : Hid (w.grownBy w4 (some b)) := gr_trans HG3.out hg
        have HX4 : Hid _ := gr_obj hg HX3.out hne
        clear hg hr
        go_wp2_with fail
        refine Calls.mono (H5.out _ (HE0.out.step HG4.out) HR4.out) ?_
        rintro e w5 ⟨rfl, hr, hg⟩
        have HR5 : Hid _ := hr
        have HG5 : Hid (w.grownBy w5 (some b)) := gr_trans HG4.out hg
        have HX5 : Hid _ := gr_obj hg HX4.out hne
        clear hg hr
        obtain ⟨⟨o0, o1⟩, q0, q1⟩ := boxR HX5.out
        go_wp2
        refine bodyPost_ret (by simp [results, Tryz.results60, go_sem, o0, o1]; try rfl) rfl ?_
        exact ⟨rfl, rd_set2 (rd_set2 HR5.out hne) hne, gr_set2 (gr_set2 HG5.out (Nat.le_refl _)) (Nat.le_refl _)⟩
  · rw [rawE_no (by rw [hk1, hn]; exact hok)] at hp; cases hp
theorem closeE_no {s : ByteArray} {a : Nat} (h : ¬ (splitT (s.extract (a + 2) (nameE s (a + 2)))).2.2 = true) : closeE s a = none := if_neg h
theorem closeE_bad {s : ByteArray} {a k f : Nat} (hk : nameE s (a + 2) = k) (hf : blanksE s k = f) (h : isAt s ⟨#[62]⟩ f = false) : closeE s a = none := by
  unfold closeE
  rw [hk, hf, h]
  split <;> rfl
theorem closeE_yes {s n : ByteArray} {a k f : Nat} (hk : nameE s (a + 2) = k) (hn : s.extract (a + 2) k = n) (hok : (splitT n).2.2 = true) (hf : blanksE s k = f) (h : isAt s ⟨#[62]⟩ f = true) : closeE s a = some (⟨2, n, [], false, ⟨#[]⟩⟩, f + 1) := by
  unfold closeE
  rw [hk, hn, if_pos hok, hf, if_pos h]
set_option maxRecDepth 100000 in
set_option maxHeartbeats 4000000 in
theorem rd_closing (s : ByteArray) (a b : Nat) (w0 : World) (ad : Option Addr) (L : List Pair) (c : Nat) (w : World) (hs : s.size ≤ 1048576) (hv : ∀ i, i < L.length → (at0 L i).2.size ≤ 1048576) (ha : a + 2 ≤ s.size) (hE : Env w0 w b ad L) (hR : Rm w b s (a + 2) ad L.length c) : Calls Tryz.prog 37 #[.pointer (some ⟨b, 0, none⟩)] w fun e w' => mOk (chk (closeE s a)) s b ad L.length c w w' e ∧ w.grownBy w' (some b) := by
  have HE0 : Hid (Env w0 w b ad L) := hE
  have HR0 : Hid (Rm w b s (a + 2) ad L.length c) := hR
  have hbl := hR.lt
  have hne : w.heap.size ≠ b := by omega
  obtain ⟨M, hM⟩ : ∃ M, chk (closeE s a) = M := ⟨_, rfl⟩
  rw [hM]
  have hkl := nameE_le s (a + 2) ha
  obtain ⟨k1, hk1⟩ : ∃ k1, nameE s (a + 2) = k1 := ⟨_, rfl⟩
  rw [hk1] at hkl
  obtain ⟨n, hn⟩ : ∃ n, s.extract (a + 2) k1 = n := ⟨_, rfl⟩
  by_cases hok : (splitT n).2.2 = true
  · have H1 : Hid (∀ W, Env w0 W b ad L → Rm W b s (a + 2) ad L.length c → _) := fun W h1 h2 => name_yes s n (a + 2) k1 b ad L.length c W hs ha hk1 hn hok h1.xt.tab.name h2
    obtain ⟨f, hf⟩ : ∃ f, blanksE s k1 = f := ⟨_, rfl⟩
    have hfl := blanksE_le s k1 hkl
    rw [hf] at hfl
    have H2 : Hid (∀ W, Env w0 W b ad L → Rm W b s k1 ad L.length c → _) := fun W h1 h2 => blanks_H _ s k1 f b _ W _ hs hkl hf rfl h2
    cases h62 : isAt s ⟨#[62]⟩ f
    · have H3 : Hid (∀ W, Env w0 W b ad L → Rm W b s f ad L.length c → _) := fun W h1 h2 => take_H _ s ⟨#[62]⟩ f b _ W hs hfl (by decide) false f h62 rfl h2
      have HN : Hid (M = none) := hM.symm.trans (chk_none (closeE_bad hk1 hf h62))
      clear hE hR hk1 hn hok hf h62 hM
      go_enter Tryz.func37, Tryz.ntmps37
      go_wp2_with fail
      refine Calls.mono (H1.out _ (HE0.out.below ((Below.refl _ _).alloc (Nat.le_refl _) _)) (HR0.out.below ((Below.refl _ _).alloc (Nat.le_refl _) _))) ?_
      rintro e w1 ⟨rfl, hr, hg⟩
      have HR1 : Hid _ := hr
      have HG1 : Hid (w.grownBy w1 (some b)) := gr_from hg
      have HX1 : Hid _ := gr_obj hg (heap_alloc_new w _) hne
      clear hg hr
      go_wp2_with fail
      refine Calls.mono (H2.out _ ((HE0.out.step HG1.out).below ((Below.refl _ _).alloc (Nat.le_refl _) _)) (HR1.out.below ((Below.refl _ _).alloc (Nat.le_refl _) _))) ?_
      rintro e w2 ⟨rfl, hr, hg⟩
      have HR2 : Hid _ := hr
      have HG2 : Hid (w.grownBy w2 (some b)) := gr_trans (gr_alloc HG1.out) hg
      have HX2 : Hid _ := gr_obj hg ((Below.heap_alloc w1 _ _ (lt_heap HX1.out)).trans HX1.out) hne
      have HM2 : Hid _ := gr_obj hg (heap_alloc_new w1 _) (by have := HG1.out.size; omega)
      clear hg hr
      go_wp2_with fail
      refine Calls.mono (H3.out _ (HE0.out.step HG2.out) HR2.out) ?_
      rintro e w3 ⟨rfl, hr, hg⟩
      have HR3 : Hid _ := hr
      have HG3 : Hid (w.grownBy w3 (some b)) := gr_trans HG2.out hg
      have HX3 : Hid _ := gr_obj hg HX2.out hne
      have HM3 : Hid _ := gr_obj hg HM2.out (by have := HG1.out.size; omega)
      clear hg hr
      go_wp2_with (go_at_call 20; refine Calls.mono (must_no _ _) ?_; rintro e w_ ⟨rfl, hw_⟩; have hw3 := hw_.symm; clear hw_; subst hw3)
      exact ⟨rfl, m_none HN.out rfl, HG3.out⟩
    · have H3 : Hid (∀ W, Env w0 W b ad L → Rm W b s f ad L.length c → _) := fun W h1 h2 => take_H _ s ⟨#[62]⟩ f b _ W hs hfl (by decide) true (f + 1) h62 rfl h2
      have HN : Hid (M = some (⟨2, n, [], false, ⟨#[]⟩⟩, f + 1)) := hM.symm.trans (chk_yes (closeE_yes hk1 hn hok hf h62) text_nil)
      clear hE hR hk1 hn hok hf h62 hM
      go_enter Tryz.func37, Tryz.ntmps37
      go_wp2_with fail
      refine Calls.mono (H1.out _ (HE0.out.below ((Below.refl _ _).alloc (Nat.le_refl _) _)) (HR0.out.below ((Below.refl _ _).alloc (Nat.le_refl _) _))) ?_
      rintro e w1 ⟨rfl, hr, hg⟩
      have HR1 : Hid _ := hr
      have HG1 : Hid (w.grownBy w1 (some b)) := gr_from hg
      have HX1 : Hid _ := gr_obj hg (heap_alloc_new w _) hne
      clear hg hr
      go_wp2_with fail
      refine Calls.mono (H2.out _ ((HE0.out.step HG1.out).below ((Below.refl _ _).alloc (Nat.le_refl _) _)) (HR1.out.below ((Below.refl _ _).alloc (Nat.le_refl _) _))) ?_
      rintro e w2 ⟨rfl, hr, hg⟩
      have HR2 : Hid _ := hr
      have HG2 : Hid (w.grownBy w2 (some b)) := gr_trans (gr_alloc HG1.out) hg
      have HX2 : Hid _ := gr_obj hg ((Below.heap_alloc w1 _ _ (lt_heap HX1.out)).trans HX1.out) hne
      have HM2 : Hid _ := gr_obj hg (heap_alloc_new w1 _) (by have := HG1.out.size; omega)
      clear hg hr
      go_wp2_with fail
      refine Calls.mono (H3.out _ (HE0.out.step HG2.out) HR2.out) ?_
      rintro e w3 ⟨rfl, hr, hg⟩
      have HR3 : Hid _ := hr
      have HG3 : Hid (w.grownBy w3 (some b)) := gr_trans HG2.out hg
      have HX3 : Hid _ := gr_obj hg HX2.out hne
      have HM3 : Hid _ := gr_obj hg HM2.out (by have := HG1.out.size; omega)
      clear hg hr
      obtain ⟨⟨o0, o1, o2, o3, o4⟩, q0, q1, q2, q3, q4⟩ := box5 HX3.out
      obtain ⟨⟨m0, m1, m2, m3, m4⟩, p0, p1, p2, p3, p4⟩ := box5 HM3.out
      go_wp2_with (go_at_call 20; refine Calls.mono (must_yes _ _) ?_; rintro e w_ ⟨rfl, hw_⟩; have hw3 := hw_.symm; clear hw_; subst hw3)
      refine bodyPost_ret (by simp [results, Tryz.results37, go_sem, o0, o1, o2, o3, o4]; try rfl) rfl ?_
      exact ⟨m_plain HN.out rfl (rd_five HR3.out hne), gr_five HG3.out (Nat.le_refl _)⟩
  · have H1 : Hid (∀ W, Env w0 W b ad L → Rm W b s (a + 2) ad L.length c → _) := fun W h1 h2 => name_no s n (a + 2) k1 b ad L.length c W hs ha hk1 hn hok h1.xt.tab.name h2
    have HN : Hid (M = none) := hM.symm.trans (chk_none (closeE_no (by rw [hk1, hn]; exact hok)))
    clear hE hR hk1 hn hok hM
    go_enter Tryz.func37, Tryz.ntmps37
    go_wp2_with fail
    refine Calls.mono (H1.out _ (HE0.out.below ((Below.refl _ _).alloc (Nat.le_refl _) _)) (HR0.out.below ((Below.refl _ _).alloc (Nat.le_refl _) _))) ?_
    rintro e w1 ⟨rfl, hg⟩
    have HG1 : Hid (w.grownBy w1 (some b)) := gr_from hg
    clear hg
    go_wp2
    exact ⟨rfl, m_none HN.out rfl, HG1.out⟩
theorem toldE_no {s : ByteArray} {a : Nat} (h : ¬ (splitT (s.extract (a + 2) (nameE s (a + 2)))).2.2 = true) : toldE s a = none := if_neg h
theorem toldE_end {s n : ByteArray} {a k : Nat} (hk : nameE s (a + 2) = k) (hn : s.extract (a + 2) k = n) (hok : (splitT n).2.2 = true) (h : isAt s ⟨#[63, 62]⟩ k = true) : toldE s a = some (n, ⟨#[]⟩, k + 2) := by
  unfold toldE
  rw [hk, hn, if_pos hok, if_pos h]
theorem toldE_stuck {s n : ByteArray} {a k : Nat} (hk : nameE s (a + 2) = k) (hn : s.extract (a + 2) k = n) (hok : (splitT n).2.2 = true) (h : isAt s ⟨#[63, 62]⟩ k = false) (hf : blanksE s k = k) : toldE s a = none := by
  unfold toldE
  rw [hk, hn, if_pos hok, if_neg (by rw [h]; decide), if_pos hf]
theorem toldE_go {s n : ByteArray} {a k f : Nat} (hk : nameE s (a + 2) = k) (hn : s.extract (a + 2) k = n) (hok : (splitT n).2.2 = true) (h : isAt s ⟨#[63, 62]⟩ k = false) (hf : blanksE s k = f) (hne : ¬ f = k) : toldE s a = match toI s ⟨#[63, 62]⟩ f with | none => none | some j => some (n, s.extract f j, j + 2) := by
  unfold toldE
  rw [hk, hn, if_pos hok, if_neg (by rw [h]; decide), hf, if_neg hne]
  cases toI s ⟨#[63, 62]⟩ f <;> rfl
set_option maxRecDepth 100000 in
set_option maxHeartbeats 4000000 in
theorem rd_told (s : ByteArray) (a b : Nat) (w0 : World) (ad : Option Addr) (L : List Pair) (c : Nat) (w : World) (hs : s.size ≤ 1048576) (hv : ∀ i, i < L.length → (at0 L i).2.size ≤ 1048576) (ha : a + 2 ≤ s.size) (hE : Env w0 w b ad L) (hR : Rm w b s (a + 2) ad L.length c) : Calls Tryz.prog 36 #[.pointer (some ⟨b, 0, none⟩)] w fun e w' => mOk (chk (tldE s a)) s b ad L.length c w w' e ∧ w.grownBy w' (some b) := by
  have HE0 : Hid (Env w0 w b ad L) := hE
  have HR0 : Hid (Rm w b s (a + 2) ad L.length c) := hR
  have hbl := hR.lt
  have hne : w.heap.size ≠ b := by omega
  obtain ⟨M, hM⟩ : ∃ M, chk (tldE s a) = M := ⟨_, rfl⟩
  rw [hM]
  have hkl := nameE_le s (a + 2) ha
  obtain ⟨k1, hk1⟩ : ∃ k1, nameE s (a + 2) = k1 := ⟨_, rfl⟩
  rw [hk1] at hkl
  obtain ⟨n, hn⟩ : ∃ n, s.extract (a + 2) k1 = n := ⟨_, rfl⟩
  by_cases hok : (splitT n).2.2 = true
  · have H1 : Hid (∀ W, Env w0 W b ad L → Rm W b s (a + 2) ad L.length c → _) := fun W h1 h2 => name_yes s n (a + 2) k1 b ad L.length c W hs ha hk1 hn hok h1.xt.tab.name h2
    cases hq : isAt s ⟨#[63, 62]⟩ k1
    · have H2 : Hid (∀ W, Env w0 W b ad L → Rm W b s k1 ad L.length c → _) := fun W h1 h2 => take_H _ s ⟨#[63, 62]⟩ k1 b _ W hs hkl (by decide) false k1 hq rfl h2
      obtain ⟨f, hf⟩ : ∃ f, blanksE s k1 = f := ⟨_, rfl⟩
      have hfl := blanksE_le s k1 hkl
      have hfg := blanksE_ge s k1
      rw [hf] at hfl hfg
      by_cases hfk : f = k1
      · have H3 : Hid (∀ W, Env w0 W b ad L → Rm W b s k1 ad L.length c → _) := fun W h1 h2 => blanks_H _ s k1 f b _ W false hs hkl hf (decide_eq_false (by omega)) h2
        have HN : Hid (M = none) := hM.symm.trans (chk_none (tld_none (toldE_stuck hk1 hn hok hq (by rw [hf]; exact hfk))))
        clear hE hR hk1 hn hok hf hq hM hfk hfg
        go_enter Tryz.func36, Tryz.ntmps36
        go_wp2_with fail
        refine Calls.mono (H1.out _ (HE0.out.below ((Below.refl _ _).alloc (Nat.le_refl _) _)) (HR0.out.below ((Below.refl _ _).alloc (Nat.le_refl _) _))) ?_
        rintro e w1 ⟨rfl, hr, hg⟩
        have HR1 : Hid _ := hr
        have HG1 : Hid (w.grownBy w1 (some b)) := gr_from hg
        have HX1 : Hid _ := gr_obj hg (heap_alloc_new w _) hne
        clear hg hr
        go_wp2_with fail
        refine Calls.mono (H2.out _ ((HE0.out.step HG1.out).below ((Below.refl _ _).alloc (Nat.le_refl _) _)) (HR1.out.below ((Below.refl _ _).alloc (Nat.le_refl _) _))) ?_
        rintro e w2 ⟨rfl, hr, hg⟩
        have HR2 : Hid _ := hr
        have HG2 : Hid (w.grownBy w2 (some b)) := gr_trans (gr_alloc HG1.out) hg
        have HX2 : Hid _ := gr_obj hg ((Below.heap_alloc w1 _ _ (lt_heap HX1.out)).trans HX1.out) hne
        have HM2 : Hid _ := gr_obj hg (heap_alloc_new w1 _) (by have := HG1.out.size; omega)
        clear hg hr
        go_wp2_with fail
        refine Calls.mono (H3.out _ (HE0.out.step HG2.out) HR2.out) ?_
        rintro e w3 ⟨rfl, hr, hg⟩
        have HR3 : Hid _ := hr
        have HG3 : Hid (w.grownBy w3 (some b)) := gr_trans HG2.out hg
        have HX3 : Hid _ := gr_obj hg HX2.out hne
        have HM3 : Hid _ := gr_obj hg HM2.out (by have := HG1.out.size; omega)
        clear hg hr
        go_wp2_with (go_at_call 20; refine Calls.mono (must_no _ _) ?_; rintro e w_ ⟨rfl, hw_⟩; have hw3 := hw_.symm; clear hw_; subst hw3)
        exact ⟨rfl, m_none HN.out rfl, HG3.out⟩
      · have H3 : Hid (∀ W, Env w0 W b ad L → Rm W b s k1 ad L.length c → _) := fun W h1 h2 => blanks_H _ s k1 f b _ W true hs hkl hf (decide_eq_true (by omega)) h2
        have hgo := toldE_go hk1 hn hok hq hf hfk
        cases hj : toI s ⟨#[63, 62]⟩ f with
        | none =>
          rw [hj] at hgo
          have H4 : Hid (∀ W, Env w0 W b ad L → Rm W b s f ad L.length c → _) := fun W h1 h2 => txt_miss hs hfl (by decide) hj h1 h2
          have HN : Hid (M = none) := hM.symm.trans (chk_none (tld_none hgo))
          clear hE hR hk1 hn hok hf hq hM hfk hfg hgo hj
          go_enter Tryz.func36, Tryz.ntmps36
          go_wp2_with fail
          refine Calls.mono (H1.out _ (HE0.out.below ((Below.refl _ _).alloc (Nat.le_refl _) _)) (HR0.out.below ((Below.refl _ _).alloc (Nat.le_refl _) _))) ?_
          rintro e w1 ⟨rfl, hr, hg⟩
          have HR1 : Hid _ := hr
          have HG1 : Hid (w.grownBy w1 (some b)) := gr_from hg
          have HX1 : Hid _ := gr_obj hg (heap_alloc_new w _) hne
          clear hg hr
          go_wp2_with fail
          refine Calls.mono (H2.out _ ((HE0.out.step HG1.out).below ((Below.refl _ _).alloc (Nat.le_refl _) _)) (HR1.out.below ((Below.refl _ _).alloc (Nat.le_refl _) _))) ?_
          rintro e w2 ⟨rfl, hr, hg⟩
          have HR2 : Hid _ := hr
          have HG2 : Hid (w.grownBy w2 (some b)) := gr_trans (gr_alloc HG1.out) hg
          have HX2 : Hid _ := gr_obj hg ((Below.heap_alloc w1 _ _ (lt_heap HX1.out)).trans HX1.out) hne
          have HM2 : Hid _ := gr_obj hg (heap_alloc_new w1 _) (by have := HG1.out.size; omega)
          clear hg hr
          go_wp2_with fail
          refine Calls.mono (H3.out _ (HE0.out.step HG2.out) HR2.out) ?_
          rintro e w3 ⟨rfl, hr, hg⟩
          have HR3 : Hid _ := hr
          have HG3 : Hid (w.grownBy w3 (some b)) := gr_trans HG2.out hg
          have HX3 : Hid _ := gr_obj hg HX2.out hne
          have HM3 : Hid _ := gr_obj hg HM2.out (by have := HG1.out.size; omega)
          clear hg hr
          go_wp2_with (first | (go_at_call 20; refine Calls.mono (must_yes _ _) ?_; rintro e w_ ⟨rfl, hw_⟩; have hw3 := hw_.symm; clear hw_; subst hw3) | fail)
          refine Calls.mono (H4.out _ (HE0.out.step HG3.out) HR3.out) ?_
          rintro e w4 ⟨rfl, hg⟩
          have HG4 : Hid (w.grownBy w4 (some b)) := gr_trans HG3.out hg
          clear hg
          go_wp2
          exact ⟨rfl, m_none HN.out rfl, HG4.out⟩
        | some j =>
          rw [hj] at hgo
          obtain ⟨x, hx⟩ : ∃ x, s.extract f j = x := ⟨_, rfl⟩
          simp only [hx] at hgo
          cases hb : refs.textB x
          · have H4 : Hid (∀ W, Env w0 W b ad L → Rm W b s f ad L.length c → _) := fun W h1 h2 => txt_long hs hfl (by decide) hj hx hb h1 h2
            have HN : Hid (M = none) := hM.symm.trans (chk_no (tld_some hgo) hb)
            clear hE hR hk1 hn hok hf hq hM hfk hfg hgo hj hx hb
            go_enter Tryz.func36, Tryz.ntmps36
            go_wp2_with fail
            refine Calls.mono (H1.out _ (HE0.out.below ((Below.refl _ _).alloc (Nat.le_refl _) _)) (HR0.out.below ((Below.refl _ _).alloc (Nat.le_refl _) _))) ?_
            rintro e w1 ⟨rfl, hr, hg⟩
            have HR1 : Hid _ := hr
            have HG1 : Hid (w.grownBy w1 (some b)) := gr_from hg
            have HX1 : Hid _ := gr_obj hg (heap_alloc_new w _) hne
            clear hg hr
            go_wp2_with fail
            refine Calls.mono (H2.out _ ((HE0.out.step HG1.out).below ((Below.refl _ _).alloc (Nat.le_refl _) _)) (HR1.out.below ((Below.refl _ _).alloc (Nat.le_refl _) _))) ?_
            rintro e w2 ⟨rfl, hr, hg⟩
            have HR2 : Hid _ := hr
            have HG2 : Hid (w.grownBy w2 (some b)) := gr_trans (gr_alloc HG1.out) hg
            have HX2 : Hid _ := gr_obj hg ((Below.heap_alloc w1 _ _ (lt_heap HX1.out)).trans HX1.out) hne
            have HM2 : Hid _ := gr_obj hg (heap_alloc_new w1 _) (by have := HG1.out.size; omega)
            clear hg hr
            go_wp2_with fail
            refine Calls.mono (H3.out _ (HE0.out.step HG2.out) HR2.out) ?_
            rintro e w3 ⟨rfl, hr, hg⟩
            have HR3 : Hid _ := hr
            have HG3 : Hid (w.grownBy w3 (some b)) := gr_trans HG2.out hg
            have HX3 : Hid _ := gr_obj hg HX2.out hne
            have HM3 : Hid _ := gr_obj hg HM2.out (by have := HG1.out.size; omega)
            clear hg hr
            go_wp2_with (first | (go_at_call 20; refine Calls.mono (must_yes _ _) ?_; rintro e w_ ⟨rfl, hw_⟩; have hw3 := hw_.symm; clear hw_; subst hw3) | fail)
            refine Calls.mono (H4.out _ (HE0.out.step HG3.out) HR3.out) ?_
            rintro e w4 ⟨rfl, hg⟩
            have HG4 : Hid (w.grownBy w4 (some b)) := gr_trans HG3.out hg
            clear hg
            go_wp2
            exact ⟨rfl, m_none HN.out rfl, HG4.out⟩
          · have H4 : Hid (∀ W, Env w0 W b ad L → Rm W b s f ad L.length c → _) := fun W h1 h2 => txt_some hs hfl (by decide) hj hx hb h1 h2
            have HN : Hid (M = some (⟨5, n, [], false, x⟩, j + 2)) := hM.symm.trans (chk_yes (tld_some hgo) hb)
            clear hE hR hk1 hn hok hf hq hM hfk hfg hgo hj hx hb
            go_enter Tryz.func36, Tryz.ntmps36
            go_wp2_with fail
            refine Calls.mono (H1.out _ (HE0.out.below ((Below.refl _ _).alloc (Nat.le_refl _) _)) (HR0.out.below ((Below.refl _ _).alloc (Nat.le_refl _) _))) ?_
            rintro e w1 ⟨rfl, hr, hg⟩
            have HR1 : Hid _ := hr
            have HG1 : Hid (w.grownBy w1 (some b)) := gr_from hg
            have HX1 : Hid _ := gr_obj hg (heap_alloc_new w _) hne
            clear hg hr
            go_wp2_with fail
            refine Calls.mono (H2.out _ ((HE0.out.step HG1.out).below ((Below.refl _ _).alloc (Nat.le_refl _) _)) (HR1.out.below ((Below.refl _ _).alloc (Nat.le_refl _) _))) ?_
            rintro e w2 ⟨rfl, hr, hg⟩
            have HR2 : Hid _ := hr
            have HG2 : Hid (w.grownBy w2 (some b)) := gr_trans (gr_alloc HG1.out) hg
            have HX2 : Hid _ := gr_obj hg ((Below.heap_alloc w1 _ _ (lt_heap HX1.out)).trans HX1.out) hne
            have HM2 : Hid _ := gr_obj hg (heap_alloc_new w1 _) (by have := HG1.out.size; omega)
            clear hg hr
            go_wp2_with fail
            refine Calls.mono (H3.out _ (HE0.out.step HG2.out) HR2.out) ?_
            rintro e w3 ⟨rfl, hr, hg⟩
            have HR3 : Hid _ := hr
            have HG3 : Hid (w.grownBy w3 (some b)) := gr_trans HG2.out hg
            have HX3 : Hid _ := gr_obj hg HX2.out hne
            have HM3 : Hid _ := gr_obj hg HM2.out (by have := HG1.out.size; omega)
            clear hg hr
            go_wp2_with (first | (go_at_call 20; refine Calls.mono (must_yes _ _) ?_; rintro e w_ ⟨rfl, hw_⟩; have hw3 := hw_.symm; clear hw_; subst hw3) | fail)
            refine Calls.mono (H4.out _ (HE0.out.step HG3.out) HR3.out) ?_
            rintro e w4 ⟨rfl, hr, hg⟩
            have HR4 : Hid _ := hr
            have HG4 : Hid (w.grownBy w4 (some b)) := gr_trans HG3.out hg
            have HX4 : Hid _ := gr_obj hg HX3.out hne
            have HM4 : Hid _ := gr_obj hg HM3.out (by have := HG1.out.size; omega)
            clear hg hr
            have hmb : w1.heap.size ≠ w.heap.size := by have := lt_heap HX1.out; omega
            have hmb2 : w1.heap.size ≠ b := by have := lt_heap HX1.out; omega
            have hmb3 : w.heap.size ≤ w1.heap.size := HG1.out.size
            obtain ⟨⟨o0, o1, o2, o3, o4⟩, q0, q1, q2, q3, q4⟩ := box5 HX4.out
            obtain ⟨⟨m0, m1, m2, m3, m4⟩, p0, p1, p2, p3, p4⟩ := box5 HM4.out
            go_wp2
            refine bodyPost_ret (by simp [results, Tryz.results36, go_sem, o0, o1, o2, o3, o4]; try rfl) rfl ?_
            exact ⟨m_plain HN.out rfl (rd_five (rd_set2 HR4.out hmb2) hne), gr_five (gr_set2 HG4.out hmb3) (Nat.le_refl _)⟩
    · have H2 : Hid (∀ W, Env w0 W b ad L → Rm W b s k1 ad L.length c → _) := fun W h1 h2 => take_H _ s ⟨#[63, 62]⟩ k1 b _ W hs hkl (by decide) true (k1 + 2) hq rfl h2
      have HN : Hid (M = some (⟨5, n, [], false, ⟨#[]⟩⟩, k1 + 2)) := hM.symm.trans (chk_yes (tld_some (toldE_end hk1 hn hok hq)) text_nil)
      clear hE hR hk1 hn hok hq hM
      go_enter Tryz.func36, Tryz.ntmps36
      go_wp2_with fail
      refine Calls.mono (H1.out _ (HE0.out.below ((Below.refl _ _).alloc (Nat.le_refl _) _)) (HR0.out.below ((Below.refl _ _).alloc (Nat.le_refl _) _))) ?_
      rintro e w1 ⟨rfl, hr, hg⟩
      have HR1 : Hid _ := hr
      have HG1 : Hid (w.grownBy w1 (some b)) := gr_from hg
      have HX1 : Hid _ := gr_obj hg (heap_alloc_new w _) hne
      clear hg hr
      go_wp2_with fail
      refine Calls.mono (H2.out _ ((HE0.out.step HG1.out).below ((Below.refl _ _).alloc (Nat.le_refl _) _)) (HR1.out.below ((Below.refl _ _).alloc (Nat.le_refl _) _))) ?_
      rintro e w2 ⟨rfl, hr, hg⟩
      have HR2 : Hid _ := hr
      have HG2 : Hid (w.grownBy w2 (some b)) := gr_trans (gr_alloc HG1.out) hg
      have HX2 : Hid _ := gr_obj hg ((Below.heap_alloc w1 _ _ (lt_heap HX1.out)).trans HX1.out) hne
      have HM2 : Hid _ := gr_obj hg (heap_alloc_new w1 _) (by have := HG1.out.size; omega)
      clear hg hr
      obtain ⟨⟨o0, o1, o2, o3, o4⟩, q0, q1, q2, q3, q4⟩ := box5 HX2.out
      obtain ⟨⟨m0, m1, m2, m3, m4⟩, p0, p1, p2, p3, p4⟩ := box5 HM2.out
      go_wp2
      refine bodyPost_ret (by simp [results, Tryz.results36, go_sem, o0, o1, o2, o3, o4]; try rfl) rfl ?_
      exact ⟨m_plain HN.out rfl (rd_five HR2.out hne), gr_five HG2.out (Nat.le_refl _)⟩
  · have H1 : Hid (∀ W, Env w0 W b ad L → Rm W b s (a + 2) ad L.length c → _) := fun W h1 h2 => name_no s n (a + 2) k1 b ad L.length c W hs ha hk1 hn hok h1.xt.tab.name h2
    have HN : Hid (M = none) := hM.symm.trans (chk_none (tld_none (toldE_no (by rw [hk1, hn]; exact hok))))
    clear hE hR hk1 hn hok hM
    go_enter Tryz.func36, Tryz.ntmps36
    go_wp2_with fail
    refine Calls.mono (H1.out _ (HE0.out.below ((Below.refl _ _).alloc (Nat.le_refl _) _)) (HR0.out.below ((Below.refl _ _).alloc (Nat.le_refl _) _))) ?_
    rintro e w1 ⟨rfl, hg⟩
    have HG1 : Hid (w.grownBy w1 (some b)) := gr_from hg
    clear hg
    go_wp2
    exact ⟨rfl, m_none HN.out rfl, HG1.out⟩
end Go.Proofs.YtekbpekfomblbaaGreatDoor.cuts
namespace Go.Proofs.YtekbpekfomblbaaGreatDoor.cuts
open Go.ChangeShapes Go.WideShapes Go.ChangeAt Go.RowKit
open names (splitT nameE)
open marks (blanksE)
open pairs (Pair at0 PairsAt)
open trees (Rng Out Bset)
set_option linter.unusedVariables false
theorem gr_drew {w w1 : World} {b : Nat} (h : w.grownBy w1 (some b)) : w.grownBy w1.drew (some b) := gr_trans h (gr_below (Below.refl _ _).drew)
theorem tillE_ge (s : ByteArray) (a : Nat) (h : a ≤ s.size) : a ≤ tillE s a ∧ tillE s a ≤ s.size := by
  unfold tillE
  cases hj : toI s ⟨#[60]⟩ a with
  | none => exact ⟨h, Nat.le_refl _⟩
  | some j => have := toF_ge hj; show a ≤ j ∧ j ≤ s.size; exact ⟨this.1, by omega⟩
theorem till_none {s : ByteArray} {a : Nat} (h : toI s ⟨#[60]⟩ a = none) : tillE s a = s.size := by unfold tillE; rw [h]
theorem till_some {s : ByteArray} {a j : Nat} (h : toI s ⟨#[60]⟩ a = some j) : tillE s a = j := by unfold tillE; rw [h]
theorem between_has {s x : ByteArray} {a : Nat} {L : List Pair} (hx : s.extract a (tillE s a) = x) (h : trees.hasB x ⟨#[93, 93, 62]⟩ = true) : betweenE s a L = none := by
  unfold betweenE
  rw [hx, if_neg (fun h' => by rw [h] at h'; exact absurd h'.1 (by decide))]
theorem between_no {s x y : ByteArray} {a : Nat} {L : List Pair} (hx : s.extract a (tillE s a) = x) (h : refs.expandR x L = (y, false)) : betweenE s a L = none := by
  unfold betweenE
  rw [hx, h, if_neg (fun h' => Bool.noConfusion (show false = true from h'.2))]
theorem between_yes {s x y : ByteArray} {a k : Nat} {L : List Pair} (hk : tillE s a = k) (hx : s.extract a k = x) (hh : trees.hasB x ⟨#[93, 93, 62]⟩ = false) (h : refs.expandR x L = (y, true)) : betweenE s a L = some (⟨3, ⟨#[]⟩, [], false, y⟩, k) := by
  unfold betweenE
  rw [hk, hx, h, if_pos ⟨hh, rfl⟩]
set_option maxRecDepth 100000 in
set_option maxHeartbeats 4000000 in
theorem rd_between (s : ByteArray) (a b : Nat) (w0 : World) (ad : Option Addr) (L : List Pair) (c : Nat) (w : World) (hs : s.size ≤ 1048576) (hv : ∀ i, i < L.length → (at0 L i).2.size ≤ 1048576) (ha : a ≤ s.size) (hE : Env w0 w b ad L) (hR : Rm w b s a ad L.length c) : Calls Tryz.prog 39 #[.pointer (some ⟨b, 0, none⟩)] w fun e w' => mOk (chk (betweenE s a L)) s b ad L.length c w w' e ∧ w.grownBy w' (some b) := by
  have HE0 : Hid (Env w0 w b ad L) := hE
  have HR0 : Hid (Rm w b s a ad L.length c) := hR
  have hbl := hR.lt
  have hne : w.heap.size ≠ b := by omega
  obtain ⟨M, hM⟩ : ∃ M, chk (betweenE s a L) = M := ⟨_, rfl⟩
  rw [hM]
  obtain ⟨hag, hale⟩ := tillE_ge s a ha
  obtain ⟨t, ht⟩ : ∃ t, tillE s a = t := ⟨_, rfl⟩
  rw [ht] at hag hale
  obtain ⟨x, hx⟩ : ∃ x, s.extract a t = x := ⟨_, rfl⟩
  have HXS : Hid (x.size = t - a) := by show _ = _; rw [← hx, ByteArray.size_extract]; omega
  have hxz : x.size ≤ 1048576 := by have := HXS.out; omega
  have HTA : Hid (a ≤ t ∧ t ≤ s.size) := ⟨hag, hale⟩
  have hcutE : ∃ y ok, ∀ W, frames.MaxAt W → Calls Tryz.prog 61 #[.string (s.extract a s.size), .string ⟨#[60]⟩] W fun e w' => e = .returned (.tuple #[.string x, .string y, .bool ok]) ∧ Below W.heap.size W w' := by
    cases hj : toI s ⟨#[60]⟩ a with
    | none =>
      refine ⟨⟨#[]⟩, false, fun W hm => ?_⟩
      have h := cut_none s ⟨#[60]⟩ a W hs (by decide) hm hj
      rw [show s.extract a s.size = x by rw [← hx, ← ht, till_none hj]] at h ⊢
      exact h
    | some j =>
      refine ⟨s.extract (j + (⟨#[60]⟩ : ByteArray).size) s.size, true, fun W hm => ?_⟩
      have h := cut_some s ⟨#[60]⟩ a j W hs (by decide) hm hj
      rw [show s.extract a j = x by rw [← hx, ← ht, till_some hj]] at h
      exact h
  obtain ⟨y0, ok0, hcut0⟩ := hcutE
  have HCUT : Hid (∀ W, frames.MaxAt W → _) := hcut0
  have hcut : ∀ W, (Instr.slice 9 (.string s) (some (.int .i64 (a : Int))) none none).run Tryz.prog W = .ok (.string (s.extract a s.size)) W := fun W => by
    have : (a : Int) ≤ s.size := by omega
    simp [go_sem, this]
  obtain ⟨z, ok, hz⟩ : ∃ z ok, refs.expandR x L = (z, ok) := ⟨_, _, rfl⟩
  obtain ⟨v, hv1⟩ : ∃ v, trees.hasB x ⟨#[93, 93, 62]⟩ = v := ⟨_, rfl⟩
  have H2 : Hid (∀ W, frames.MaxAt W → _) := fun W h => trees.contains_H x ⟨#[93, 93, 62]⟩ v hxz hv1 W h
  have HVT : Hid (v = true → M = none) := fun e => hM.symm.trans (chk_none (between_has (x := x) (by rw [ht]; exact hx) (hv1.trans e)))
  have HON : Hid (ok = false → M = none) := fun e => hM.symm.trans (chk_none (between_no (x := x) (y := z) (by rw [ht]; exact hx) (by rw [hz, e])))
  have HOY : Hid (v = false → ok = true → M = some (⟨3, ⟨#[]⟩, [], false, z⟩, t)) := fun e1 e2 => hM.symm.trans (chk_yes (between_yes ht hx (hv1.trans e1) (show refs.expandR x L = (z, true) by rw [hz, e2])) (ex_size (n := 0) hz e2).2)
  have HZ : Hid _ := hz
  have HV : Hid _ := hv
  clear hE hR hM ht hx hz hv1 hv hcut0 hag hale
  go_enter Tryz.func39, Tryz.ntmps39
  go_wp2_with fail
  have HE1 : Hid (Env w0 (w.alloc (.cells #[.int .i64 0, .string ⟨#[]⟩, .slice none 0 0, .bool false, .string ⟨#[]⟩] 29)) b ad L) := HE0.out.below ((Below.refl _ _).alloc (Nat.le_refl _) _)
  have HR1 : Hid (Rm (w.alloc (.cells #[.int .i64 0, .string ⟨#[]⟩, .slice none 0 0, .bool false, .string ⟨#[]⟩] 29)) b s a ad L.length c) := HR0.out.below ((Below.refl _ _).alloc (Nat.le_refl _) _)
  have HX1 : Hid ((w.alloc (.cells #[.int .i64 0, .string ⟨#[]⟩, .slice none 0 0, .bool false, .string ⟨#[]⟩] 29)).heap[w.heap.size]? = _) := heap_alloc_new w _
  have HG1 : Hid (w.grownBy (w.alloc (.cells #[.int .i64 0, .string ⟨#[]⟩, .slice none 0 0, .bool false, .string ⟨#[]⟩] 29)) (some b)) := gr_alloc (pairs.grown_refl _ _)
  obtain ⟨W1, hW1⟩ : ∃ W1, w.alloc (.cells #[.int .i64 0, .string ⟨#[]⟩, .slice none 0 0, .bool false, .string ⟨#[]⟩] 29) = W1 := ⟨_, rfl⟩
  rw [hW1] at HE1 HR1 HX1 HG1 ⊢
  clear hW1
  have hl : ∀ W, Below W1.heap.size W1 W → W.cell? ⟨b, 0, none⟩ = some (.string s) ∧ W.cell? ⟨b, 1, none⟩ = some (.int .i64 (a : Int)) := fun W h => ⟨(HR1.out.below h).cells.1, (HR1.out.below h).cells.2.1⟩
  refine quiets.wp_region_below (by kernel_rfl) (by kernel_rfl) ?_
  repeat (go_big_quiet_step ((first | (intro hq; rfl) | (intro hq; simp [go_sem, (hl _ hq).1]; rfl) | (intro hq; simp [go_sem, (hl _ hq).2]; rfl) | (intro hq; rw [hcut]; rfl) | (intro hq; exact quiets.below_call (HCUT.out _ (HE1.out.below hq).xt.max) hq))))
  refine wpQuiet_nil ?_
  intro w2 hb2
  have HE2 : Hid _ := HE1.out.below hb2
  have HR2 : Hid _ := HR1.out.below hb2
  have HG2 : Hid _ := gr_trans HG1.out (gr_below hb2)
  have HX2 : Hid _ := gr_obj (gr_below (b := b) hb2) HX1.out hne
  clear hb2 hl hcut
  go_wp2_with fail
  refine Calls.mono (H2.out _ HE2.out.xt.max) ?_
  rintro e w3 ⟨rfl, hb3⟩
  have HE3 : Hid _ := HE2.out.below hb3
  have HR3 : Hid _ := HR2.out.below hb3
  have HG3 : Hid _ := gr_trans HG2.out (gr_below hb3)
  have HX3 : Hid _ := gr_obj (gr_below (b := b) hb3) HX2.out hne
  clear hb3
  cases v
  · obtain ⟨c0, c1, f0, f1⟩ := HR3.out.cells
    have HR4 : Hid (Rm (w3.setCell ⟨b, 1, none⟩ (.int .i64 ((a : Int) + (x.size : Int)))) b s t ad L.length c) := by
      have := HR3.out.set t
      rw [show ((t : Nat) : Int) = (a : Int) + (x.size : Int) by have := HXS.out; have := HTA.out; omega] at this
      exact this
    have HG4 : Hid (w.grownBy (w3.setCell ⟨b, 1, none⟩ (.int .i64 ((a : Int) + (x.size : Int)))) (some b)) := gr_set HG3.out
    have HE4 : Hid (Env w0 (w3.setCell ⟨b, 1, none⟩ (.int .i64 ((a : Int) + (x.size : Int)))) b ad L) := HE3.out.step (pairs.grown_set _ _ _ _)
    have HX4 : Hid ((w3.setCell ⟨b, 1, none⟩ (.int .i64 ((a : Int) + (x.size : Int)))).heap[w.heap.size]? = _) := gr_obj (pairs.grown_set _ _ _ _) HX3.out hne
    cases ok
    · have HN : Hid (M = none) := HON.out rfl
      have H3 : Hid (∀ W, Env w0 W b ad L → Rm W b s t ad L.length c → _) := fun W h1 h2 => exp_noI hxz HV.out HZ.out h1 h2
      go_wp2_with (first | (go_at_call 20; refine Calls.mono (must_yes _ _) ?_; rintro e w_ ⟨rfl, hw_⟩; have hw3 := hw_.symm; clear hw_; subst hw3) | fail)
      refine Calls.mono (H3.out _ HE4.out HR4.out) ?_
      rintro e w5 ⟨rfl, hg⟩
      have HG5 : Hid _ := gr_trans HG4.out hg
      clear hg
      go_wp2
      exact ⟨rfl, m_none HN.out rfl, HG5.out⟩
    · have HN : Hid (M = some (⟨3, ⟨#[]⟩, [], false, z⟩, t)) := HOY.out rfl rfl
      have H3 : Hid (∀ W, Env w0 W b ad L → Rm W b s t ad L.length c → _) := fun W h1 h2 => exp_yesI hxz HV.out HZ.out h1 h2
      go_wp2_with (first | (go_at_call 20; refine Calls.mono (must_yes _ _) ?_; rintro e w_ ⟨rfl, hw_⟩; have hw3 := hw_.symm; clear hw_; subst hw3) | fail)
      refine Calls.mono (H3.out _ HE4.out HR4.out) ?_
      rintro e w5 ⟨rfl, hr, hg⟩
      have HG5 : Hid _ := gr_trans HG4.out hg
      have HR5 : Hid _ := hr
      have HX5 : Hid _ := gr_obj hg HX4.out hne
      clear hg hr c0 c1 f0 f1
      obtain ⟨⟨o0, o1, o2, o3, o4⟩, q0, q1, q2, q3, q4⟩ := box5 HX5.out
      go_wp2
      refine bodyPost_ret (by simp [results, Tryz.results39, go_sem, o0, o1, o2, o3, o4]; try rfl) rfl ?_
      exact ⟨m_plain HN.out rfl (rd_five HR5.out hne), gr_five HG5.out (Nat.le_refl _)⟩
  · have HN : Hid (M = none) := HVT.out rfl
    go_wp2_with (go_at_call 20; refine Calls.mono (must_no _ _) ?_; rintro e w_ ⟨rfl, hw_⟩; have hw3 := hw_.symm; clear hw_; subst hw3)
    exact ⟨rfl, m_none HN.out rfl, HG3.out⟩
/-- append of one Raw to a row of the call's own, as a step of a region that draws its order. -/
theorem step_raw {ops : Array Oper} {o : Oper} {a : Act} {W : World} {K : Act → World → Prop} {Q : Exit → Act → World → Prop} {E : Prop}
    (hg : o.guard = none) (s x : Operand) (hop : o.op = Op.call { callee := Callee.builtin Builtin.append, args := #[s, x], argTypes := #[27, 27] })
    (B : Nat) (v : Value) (R : List Pair) (n y : ByteArray) (g : Nat) (hs : a.eval s = v) (hx : a.eval x = .slice (some ⟨g, 0, none⟩) 1 1) (hown : pairs.OwnP 33 W B v R) (hz : R.length + 1 ≤ 1000000) (hB : B ≤ W.heap.size) (hc : W.cell? ⟨g, 0, none⟩ = some (.string n) ∧ W.cell? ⟨g, 1, none⟩ = some (.string y))
    (hK : ∀ av cv w', pairs.OwnP 33 w' B (.slice av (R.length + 1) cv) (R ++ [(n, y)]) → W.heap.size ≤ w'.heap.size → (∀ k, k < B → w'.heap[k]? = W.heap[k]?) → w'.os = W.os → w'.tape = W.tape → w'.output = W.output → K (a.put o.dst (.slice av (R.length + 1) cv)) w') :
    if Region.wanted o (yielded ops a.tmps) = true then Oper.wp Tryz.prog o a W K Q else E := by
  have hw : Region.wanted o (yielded ops a.tmps) = true := by simp [Region.wanted, hg]
  rw [if_pos hw]
  obtain ⟨i0, hi, hz0, hz1, hz2⟩ := info_parts pairs.infoO_Raw
  obtain ⟨v', w', hrun, ho, hgr, _⟩ := run_append_own (P := Tryz.prog) (w := W) B 27 o.type 33 i0 (.agg #[.string ⟨#[]⟩, .string ⟨#[]⟩]) 2 32 Tryz.underlying27 hi hz0 hz1 hz2 rfl (by decide) v R.length (pairs.cellsOf R) hown ⟨g, 0, none⟩ 1 1 (pairs.cellsOf [(n, y)]) (pairs.cellsOf_len _) (fun j u hj => by
    rw [show (⟨g, 0, none⟩ : Addr).add j = ⟨g, j, none⟩ by rw [Addr.add_lit, Nat.zero_add]]
    match j, hj with
    | 0, hj => rw [hc.1]; exact hj
    | 1, hj => rw [hc.2]; exact hj
    | j + 2, hj => cases hj) (pairs.cells_one _) (by unfold maxLen; omega) (by omega) hB
  have ho' : pairs.OwnP 33 w' B v' (R ++ [(n, y)]) := by unfold pairs.OwnP; rw [pairs.cellsOf_append, List.length_append]; exact ho
  obtain ⟨av, cv, rfl⟩ := own_shape ho'
  rw [List.length_append] at ho' hrun
  unfold Oper.wp
  simp [execOp, hop, resolve, invoke, builtin, hs, hx, hrun, Result.andThen]
  exact hK av cv w' ho' hgr.size (fun k hk => hgr.block k (Nat.lt_of_lt_of_le hk hB) (fun e => by
    have := (World.ownsRow.lt hown k e.symm).1
    omega)) hgr.os hgr.tape hgr.output
/-- What a round of opening keeps. -/
structure PRel (w0 w wr : World) (mb b : Nat) (s : ByteArray) (k : Nat) (ad : Option Addr) (L : List Pair) (c : Nat) (n : ByteArray) (v : Value) (R : List Pair) : Prop where
  res : wr.heap[w.heap.size]? = some (.cells #[.int .i64 0, .string ⟨#[]⟩, .slice none 0 0, .bool false, .string ⟨#[]⟩] 29 (0, 0))
  box : wr.heap[mb]? = some (.cells #[.int .i64 1, .string n, v, .bool false, .string ⟨#[]⟩] 29 (0, 0))
  own : pairs.OwnP 33 wr (mb + 1) v R
  gr : w.grownBy wr (some b)
  rd : Rm wr b s k ad L.length c
  env : Env w0 wr b ad L
  bb : b < w.heap.size
  gt : w.heap.size < mb
  lt : mb < wr.heap.size
theorem own_grown {t : TypeId} {w w' : World} {B b : Nat} {v : Value} {R : List Pair} (h : pairs.OwnP t w B v R) (hg : w.grownBy w' (some b)) (hb : b < B) : pairs.OwnP t w' B v R :=
  World.ownsRow.kept h (row := some b) hg (by
    rcases h.2 with ⟨rfl, _⟩ | ⟨g', cap, cur, rfl, h0, _⟩
    · simp [Value.ownBlock]
    · simp only [Value.ownBlock, ne_eq, Option.some.injEq]; omega)
theorem PRel.step {w0 w wr w2 : World} {mb b : Nat} {s : ByteArray} {k j : Nat} {ad : Option Addr} {L : List Pair} {c : Nat} {n : ByteArray} {v : Value} {R : List Pair} (h : PRel w0 w wr mb b s k ad L c n v R) (hg : wr.grownBy w2 (some b)) (hr : Rm w2 b s j ad L.length c) : PRel w0 w w2 mb b s j ad L c n v R := by
  have h1 := h.bb
  have h2 := h.gt
  exact ⟨gr_obj hg h.res (by omega), gr_obj hg h.box (by omega), own_grown h.own hg (by omega), gr_trans h.gr hg, hr, h.env.step hg, h.bb, h.gt, Nat.lt_of_lt_of_le h.lt hg.size⟩
theorem PRel.below {w0 w wr w2 : World} {mb b : Nat} {s : ByteArray} {k : Nat} {ad : Option Addr} {L : List Pair} {c : Nat} {n : ByteArray} {v : Value} {R : List Pair} (h : PRel w0 w wr mb b s k ad L c n v R) (hb : Below wr.heap.size wr w2) : PRel w0 w w2 mb b s k ad L c n v R := h.step (gr_below hb) (h.rd.below hb)
theorem PRel.add {w0 w wr w5 : World} {mb b : Nat} {s : ByteArray} {k : Nat} {ad : Option Addr} {L : List Pair} {c : Nat} {n : ByteArray} {v v' : Value} {R R' : List Pair} (h : PRel w0 w wr mb b s k ad L c n v R) (ho : pairs.OwnP 33 w5 (mb + 1) v' R') (hs : wr.heap.size ≤ w5.heap.size) (hk : ∀ k, k < mb + 1 → w5.heap[k]? = wr.heap[k]?) (h1 : w5.os = wr.os) (h2 : w5.tape = wr.tape) (h3 : w5.output = wr.output) :
    PRel w0 w (w5.setCell ⟨mb, 2, none⟩ v') mb b s k ad L c n v' R' ∧ w5.cell? ⟨mb, 2, none⟩ = some v ∧ w5.frozen? ⟨mb, 2, none⟩ = false := by
  have hgt := h.gt
  have hbb := h.bb
  have hge := h.env.ge
  have hlt := h.lt
  have hb : Below (mb + 1) wr w5 := ⟨h1, h2, h3, hs, fun k hk' => hk k hk'⟩
  have hb2 : Below (w.heap.size) wr (w5.setCell ⟨mb, 2, none⟩ v') := (hb.mono (by omega)).setCell (p := ⟨mb, 2, none⟩) (by show w.heap.size ≤ mb; omega) _
  have hbox : w5.heap[mb]? = some (.cells #[.int .i64 1, .string n, v, .bool false, .string ⟨#[]⟩] 29 (0, 0)) := (hk mb (by omega)).trans h.box
  have hres : w5.heap[w.heap.size]? = _ := (hk _ (by omega)).trans h.res
  refine ⟨⟨?_, ?_, own_set ho (by omega), ?_, ⟨?_⟩, ?_, hbb, hgt, ?_⟩, ?_, ?_⟩
  · rw [Below.heap_setCell w5 ⟨mb, 2, none⟩ v' _ (by show w.heap.size ≠ mb; omega)]; exact hres
  · rw [pairs.block_set v' hbox]; rfl
  · exact ⟨hb2.os.trans h.gr.os, hb2.tape.trans h.gr.tape, hb2.output.trans h.gr.output, Nat.le_trans h.gr.size hb2.size, fun i hi hne => (hb2.block i hi).trans (h.gr.block i hi hne)⟩
  · rw [Below.heap_setCell w5 ⟨mb, 2, none⟩ v' _ (by show b ≠ mb; omega)]; exact (hk b (by omega)).trans h.rd.blk
  · exact ⟨h.env.tab, h.env.row, h.env.ge, h.env.bel.trans (hb2.mono (by omega))⟩
  · rw [trees.size_setCell]; exact Nat.lt_of_lt_of_le h.lt hs
  · simp [World.cell?, hbox]
  · simp [World.frozen?, hbox]
theorem m_good {r : Option (MarkV × Nat)} {s : ByteArray} {b : Nat} {ad : Option Addr} {n c : Nat} {w w' : World} {e : Ending} {m : MarkV} {j : Nat} (h : r = some (m, j)) (he : ∃ a' c', e = .returned (mkV m a' c') ∧ trees.OwnP w' a' m.raws (Rng w w')) (hR : Rm w' b s j ad n c) : mOk r s b ad n c w w' e := by subst h; exact ⟨he, hR⟩
structure QRel (w0 w wr : World) (mb b : Nat) (s : ByteArray) (k : Nat) (ad : Option Addr) (L : List Pair) (c : Nat) (n : ByteArray) (v : Value) (R : List Pair) (bb : Bool) : Prop where
  res : wr.heap[w.heap.size]? = some (.cells #[.int .i64 0, .string ⟨#[]⟩, .slice none 0 0, .bool false, .string ⟨#[]⟩] 29 (0, 0))
  box : wr.heap[mb]? = some (.cells #[.int .i64 1, .string n, v, .bool bb, .string ⟨#[]⟩] 29 (0, 0))
  own : pairs.OwnP 33 wr (mb + 1) v R
  gr : w.grownBy wr (some b)
  rd : Rm wr b s k ad L.length c
  bl : b < w.heap.size
  gt : w.heap.size < mb
theorem PRel.flag {w0 w wr : World} {mb b : Nat} {s : ByteArray} {k : Nat} {ad : Option Addr} {L : List Pair} {c : Nat} {n : ByteArray} {v : Value} {R : List Pair} (h : PRel w0 w wr mb b s k ad L c n v R) (bb : Bool) : QRel w0 w (wr.setCell ⟨mb, 3, none⟩ (.bool bb)) mb b s k ad L c n v R bb := by
  have hgt := h.gt
  have hbb := h.bb
  refine ⟨?_, ?_, own_set h.own (by omega), gr_set2 h.gr (by omega), rd_set2 h.rd (by omega), hbb, hgt⟩
  · rw [Below.heap_setCell wr ⟨mb, 3, none⟩ _ _ (by show w.heap.size ≠ mb; omega)]; exact h.res
  · rw [pairs.block_set _ h.box]; rfl
theorem QRel.step {w0 w wr w2 : World} {mb b : Nat} {s : ByteArray} {k j : Nat} {ad : Option Addr} {L : List Pair} {c : Nat} {n : ByteArray} {v : Value} {R : List Pair} {bb : Bool} (h : QRel w0 w wr mb b s k ad L c n v R bb) (hg : wr.grownBy w2 (some b)) (hr : Rm w2 b s j ad L.length c) : QRel w0 w w2 mb b s j ad L c n v R bb := by
  have h1 := h.bl
  have h2 := h.gt
  exact ⟨gr_obj hg h.res (by omega), gr_obj hg h.box (by omega), own_grown h.own hg (by omega), gr_trans h.gr hg, hr, h.bl, h.gt⟩
theorem stands_H (T : TypeId) (s t : ByteArray) (k b : Nat) (rest : Array Value) (w : World) (v : Bool) (hs : s.size ≤ 1048576) (hk : k ≤ s.size) (ht : 0 < t.size) (hv : isAt s t k = v) (hR : Rd T w b s k rest) : Calls Tryz.prog 56 #[.pointer (some ⟨b, 0, none⟩), .string t] w fun e w' => e = .returned (.bool v) ∧ Below w.heap.size w w' := by
  have := cur_stands T s t k b rest w hs hk ht hR
  rw [hv] at this
  exact this
theorem byte_at {s : ByteArray} {c : UInt8} {k : Nat} (h : isAt s ⟨#[c]⟩ k = true) : s.get! k = c := by
  have hle : k + 1 ≤ s.size := isAt_le h
  have := isAt_byte s c k hle
  rw [h] at this
  exact UInt8.toNat_inj.1 (by have := of_decide_eq_true this.symm; omega)
theorem slash_only {s : ByteArray} {i : Nat} (h : isAt s ⟨#[47]⟩ i = true) : isAt s ⟨#[62]⟩ i = false := by
  have hle : i + 1 ≤ s.size := isAt_le h
  rw [isAt_byte s 62 i hle, byte_at h]
  rfl
theorem get_two (s : ByteArray) (k : Nat) (h : k + 1 < s.size) : s.extract k (k + 2) = ⟨#[s.get! k, s.get! (k + 1)]⟩ := by
  have e : s.extract k (k + 2) = s.extract k (k + 1) ++ s.extract (k + 1) (k + 2) := by
    rw [ByteArray.extract_append_extract]
    congr 1 <;> omega
  rw [e, get_one s k (by omega), get_one s (k + 1) h]
  rfl
theorem two_bytes (s : ByteArray) (x y : UInt8) (i : Nat) : isAt s ⟨#[x, y]⟩ i = (isAt s ⟨#[x]⟩ i && isAt s ⟨#[y]⟩ (i + 1)) := by
  by_cases h : i + 1 < s.size
  · rw [isAt_byte s x i (by omega), isAt_byte s y (i + 1) h, isAt_in (by show i + 2 ≤ s.size; omega)]
    show ((s.extract i (i + 2)).toList == _) = _
    rw [get_two s i h, ByteArray.toList_eq, ByteArray.toList_eq, Bool.eq_iff_iff]
    simp only [beq_iff_eq, Bool.and_eq_true, decide_eq_true_eq, List.cons.injEq, and_true]
    constructor
    · rintro ⟨e1, e2⟩; exact ⟨by rw [e1], by rw [e2]⟩
    · rintro ⟨e1, e2⟩; exact ⟨UInt8.toNat_inj.1 (by omega), UInt8.toNat_inj.1 (by omega)⟩
  · rw [isAt_out (t := ⟨#[x, y]⟩) (by show ¬ i + 2 ≤ s.size; omega), isAt_out (t := ⟨#[y]⟩) (by show ¬ i + 1 + 1 ≤ s.size; omega), Bool.and_false]
theorem slash_raw {s : ByteArray} {i : Nat} {L : List Pair} (h : isAt s ⟨#[47]⟩ i = true) : rawE s i L = none := by
  have hle : i + 1 ≤ s.size := isAt_le h
  have hx : ((s.get! i).toNat : Int) = 47 := by
    have := isAt_byte s 47 i hle
    rw [h] at this
    exact of_decide_eq_true this.symm
  have hn : nameE s i = i := by
    unfold nameE
    refine names.ends_stop s _ i ?_
    rintro ⟨_, _, hb⟩
    have hd : (Utf8.decode s i).1 = 47 := by
      rw [Lib.decode_at s i]
      unfold Lib.decodeN
      rw [if_pos (by omega)]
      show (s.get! i).toNat = 47
      omega
    rw [hd] at hb
    exact absurd hb (by decide +kernel)
  refine rawE_no ?_
  rw [hn]
  have : s.extract i i = ⟨#[]⟩ := by
    apply ByteArray.ext
    apply Array.eq_empty_of_size_eq_zero
    show (s.extract i i).size = 0
    rw [ByteArray.size_extract]; omega
  rw [this]
  decide +kernel
theorem two_at {s : ByteArray} {i : Nat} : isAt s ⟨#[47, 62]⟩ i = (isAt s ⟨#[47]⟩ i && isAt s ⟨#[62]⟩ (i + 1)) := two_bytes s 47 62 i
/-- How opening ends: behind the blanks at i nothing more comes. -/
theorem open_end {s : ByteArray} {L : List Pair} {f k i : Nat} {R : List Pair} (hf : s.size + 2 ≤ k + f) (hk : k ≤ s.size) (hi : blanksE s k = i) (h : i = k ∨ isAt s ⟨#[47]⟩ i = true ∨ isAt s ⟨#[62]⟩ i = true) (h2 : isAt s ⟨#[47, 62]⟩ i = false) (h1 : isAt s ⟨#[62]⟩ i = false) : openF s L f k R = none := by
  by_cases hik : i = k
  · exact openF_stuck hi h2 h1 hik
  · rcases h with h | h | h
    · exact absurd h hik
    · exact openF_none hi h2 h1 hik (slash_raw h)
    · rw [h] at h1; cases h1
set_option maxRecDepth 100000 in
set_option maxHeartbeats 8000000 in
theorem rd_opening (s : ByteArray) (a b : Nat) (w0 : World) (ad : Option Addr) (L : List Pair) (c : Nat) (w : World) (hs : s.size ≤ 1048576) (hv : ∀ i, i < L.length → (at0 L i).2.size ≤ 1048576) (ha : a + 1 ≤ s.size) (hE : Env w0 w b ad L) (hR : Rm w b s (a + 1) ad L.length c) : Calls Tryz.prog 38 #[.pointer (some ⟨b, 0, none⟩)] w fun e w' => mOk (chk (openE s a L)) s b ad L.length c w w' e ∧ w.grownBy w' (some b) := by
  have HE0 : Hid (Env w0 w b ad L) := hE
  have HR0 : Hid (Rm w b s (a + 1) ad L.length c) := hR
  have hbl := hR.lt
  have hne : w.heap.size ≠ b := by omega
  obtain ⟨M, hM⟩ : ∃ M, chk (openE s a L) = M := ⟨_, rfl⟩
  rw [hM]
  have HV : Hid _ := hv
  have HSZ : Hid (s.size ≤ 1048576) := hs
  have hkl := nameE_le s (a + 1) ha
  obtain ⟨k0, hk0⟩ : ∃ k0, nameE s (a + 1) = k0 := ⟨_, rfl⟩
  rw [hk0] at hkl
  obtain ⟨n, hn⟩ : ∃ n, s.extract (a + 1) k0 = n := ⟨_, rfl⟩
  by_cases hok : (splitT n).2.2 = true
  · have H1 : Hid (∀ W, Env w0 W b ad L → Rm W b s (a + 1) ad L.length c → _) := fun W h1 h2 => name_yes s n (a + 1) k0 b ad L.length c W hs ha hk0 hn hok h1.xt.tab.name h2
    have HBAD : Hid (openF s L (s.size + 2) k0 [] = none → M = none) := fun h => hM.symm.trans (chk_none (openE_bad (by rw [hk0, hn]; exact hok) hk0 h))
    have HGOOD : Hid (∀ R b j, openF s L (s.size + 2) k0 [] = some (R, b, j) → M = some (⟨1, n, R, b, ⟨#[]⟩⟩, j)) := fun R b j h => hM.symm.trans (chk_yes (openE_good (by rw [hk0, hn]; exact hok) hk0 hn h) text_nil)
    clear hE hR hM hk0 hn hok hv
    go_enter Tryz.func38, Tryz.ntmps38
    go_wp2_with fail
    refine Calls.mono (H1.out _ (HE0.out.below ((Below.refl _ _).alloc (Nat.le_refl _) _)) (HR0.out.below ((Below.refl _ _).alloc (Nat.le_refl _) _))) ?_
    rintro e w1 ⟨rfl, hr, hg⟩
    have HG1 : Hid (w.grownBy w1 (some b)) := gr_from hg
    have HX1 : Hid _ := gr_obj hg (heap_alloc_new w _) hne
    have HR1 : Hid _ := hr
    have hlt1 := lt_heap HX1.out
    clear hg hr
    go_wp2
    obtain ⟨mb, hmb⟩ : ∃ mb, w1.heap.size = mb := ⟨_, rfl⟩
    have HP0 : Hid (PRel w0 w (w1.alloc (.cells #[.int .i64 1, .string n, .slice none 0 0, .bool false, .string ⟨#[]⟩] 29)) mb b s k0 ad L c n (.slice none 0 0) []) := by
      subst hmb
      refine ⟨(Below.heap_alloc w1 _ _ hlt1).trans HX1.out, heap_alloc_new w1 _, ⟨rfl, .inl ⟨rfl, rfl⟩⟩, gr_alloc HG1.out, HR1.out.below ((Below.refl _ _).alloc (Nat.le_refl _) _), (HE0.out.step HG1.out).below ((Below.refl _ _).alloc (Nat.le_refl _) _), hbl, hlt1, by simp⟩
    rw [hmb]
    obtain ⟨W1, hW1⟩ : ∃ W1, w1.alloc (.cells #[.int .i64 1, .string n, .slice none 0 0, .bool false, .string ⟨#[]⟩] 29) = W1 := ⟨_, rfl⟩
    rw [hW1] at HP0 ⊢
    have hmw : w.heap.size < mb := by omega
    clear hW1 hmb hlt1 HX1 HR1 HG1
    go_loopw [10] (fun t wr => ∃ (k f : Nat) (v : Value) (R : List Pair), k ≤ s.size ∧ t = t ∧ Hid (openF s L (s.size + 2) k0 [] = openF s L f k R) ∧ Hid (s.size + 2 ≤ k + f) ∧ Hid (R.length * 2 ≤ k) ∧ Hid (PRel w0 w wr mb b s k ad L c n v R)) (fun _ wr => s.size - (intOf ((wr.cell? ⟨b, 1, none⟩).getD (.int .i64 0))).toNat)
    case atStart => exact ⟨k0, s.size + 2, _, [], hkl, rfl, rfl, by show s.size + 2 ≤ k0 + (s.size + 2); omega, by show 0 * 2 ≤ k0; omega, HP0⟩
    case round =>
      obtain ⟨k, f, v, R, hk, -, hO, hf, hRl, hP⟩ := hrel
      have hil : blanksE s k ≤ s.size := blanksE_le s k hk
      have hig : k ≤ blanksE s k := blanksE_ge s k
      obtain ⟨i, hi⟩ : ∃ i, blanksE s k = i := ⟨_, rfl⟩
      have HI : Hid (blanksE s k = i) := hi
      rw [hi] at hil hig
      have HEND : Hid ((i = k ∨ isAt s ⟨#[47]⟩ i = true ∨ isAt s ⟨#[62]⟩ i = true) → isAt s ⟨#[47, 62]⟩ i = false → isAt s ⟨#[62]⟩ i = false → M = none) := fun h h2 h1 => HBAD.out (hO.out.trans (open_end hf.out hk hi h h2 h1))
      have HTWO : Hid (isAt s ⟨#[47, 62]⟩ i = true → M = some (⟨1, n, R, true, ⟨#[]⟩⟩, i + 2)) := fun h => HGOOD.out R true (i + 2) (hO.out.trans (openF_two hf.out hk hi h))
      have HONE : Hid (isAt s ⟨#[47, 62]⟩ i = false → isAt s ⟨#[62]⟩ i = true → M = some (⟨1, n, R, false, ⟨#[]⟩⟩, i + 1)) := fun h h1 => HGOOD.out R false (i + 1) (hO.out.trans (openF_one hf.out hk hi h h1))
      have HMEAS : Hid (intOf ((wr.cell? ⟨b, 1, none⟩).getD (.int .i64 0)) = (k : Int)) := by show _ = _; rw [hP.out.rd.cells.2.1]; rfl
      by_cases hik : i = k
      · have H2 : Hid (∀ W, Rm W b s k ad L.length c → _) := fun W h2 => blanks_H _ s k i b _ W false hs hk hi (decide_eq_false (by omega)) h2
        have HX : Hid (i = k ∨ isAt s ⟨#[47]⟩ i = true ∨ isAt s ⟨#[62]⟩ i = true) := .inl hik
        clear hi
        go_wp2_with fail
        refine Calls.mono (H2.out _ hP.out.rd) ?_
        rintro e w2 ⟨rfl, hr, hg⟩
        have HP2 : Hid _ := hP.out.step hg hr
        clear hr hg
        cases v1 : isAt s ⟨#[47]⟩ i
        · have H6 : Hid (∀ W, Rm W b s i ad L.length c → _) := fun W h2 => take_H _ s ⟨#[47]⟩ i b _ W hs hil (by decide) false i v1 rfl h2
          have h2f : isAt s ⟨#[47, 62]⟩ i = false := by rw [two_at, v1]; rfl
          cases v2 : isAt s ⟨#[62]⟩ i
          · have H7 : Hid (∀ W, Rm W b s i ad L.length c → _) := fun W h2 => take_H _ s ⟨#[62]⟩ i b _ W hs hil (by decide) false i v2 rfl h2
            have HN : Hid (M = none) := HEND.out HX.out h2f v2
            clear v1 v2 h2f
            go_wp2_with fail
            refine Calls.mono (H6.out _ HP2.out.rd) ?_
            rintro e w8 ⟨rfl, hr, hg⟩
            have HP8 : Hid _ := HP2.out.step hg hr
            clear hr hg
            obtain ⟨⟨m0, m1, m2, m3, m4⟩, p0, p1, p2, p3, p4⟩ := box5 HP8.out.box
            have HQ8 : Hid (QRel w0 w (w8.setCell ⟨mb, 3, none⟩ (.bool false)) mb b s i ad L c n v R false) := HP8.out.flag false
            clear HP8
            go_wp2_with fail
            refine Calls.mono (H7.out _ HQ8.out.rd) ?_
            rintro e w9 ⟨rfl, hr, hg⟩
            have HQ9 : Hid _ := HQ8.out.step hg hr
            have HPY : Hid _ := HQ9.out.gr
            clear hr hg m0 m1 m2 m3 m4 p0 p1 p2 p3 p4
            go_wp2_with (go_at_call 20; refine Calls.mono (must_no _ _) ?_; rintro e w_ ⟨rfl, hw_⟩; have hw3 := hw_.symm; clear hw_; subst hw3)
            exact ⟨rfl, m_none HN.out rfl, HPY.out⟩
          · have H7 : Hid (∀ W, Rm W b s i ad L.length c → _) := fun W h2 => take_H _ s ⟨#[62]⟩ i b _ W hs hil (by decide) true (i + 1) v2 rfl h2
            have HN : Hid (M = some (⟨1, n, R, false, ⟨#[]⟩⟩, i + 1)) := HONE.out h2f v2
            clear v1 v2 h2f
            go_wp2_with fail
            refine Calls.mono (H6.out _ HP2.out.rd) ?_
            rintro e w8 ⟨rfl, hr, hg⟩
            have HP8 : Hid _ := HP2.out.step hg hr
            clear hr hg
            obtain ⟨⟨m0, m1, m2, m3, m4⟩, p0, p1, p2, p3, p4⟩ := box5 HP8.out.box
            have HQ8 : Hid (QRel w0 w (w8.setCell ⟨mb, 3, none⟩ (.bool false)) mb b s i ad L c n v R false) := HP8.out.flag false
            clear HP8
            go_wp2_with fail
            refine Calls.mono (H7.out _ HQ8.out.rd) ?_
            rintro e w9 ⟨rfl, hr, hg⟩
            have HQ9 : Hid _ := HQ8.out.step hg hr
            have HPY : Hid _ := HQ9.out.gr
            clear hr hg m0 m1 m2 m3 m4 p0 p1 p2 p3 p4
            obtain ⟨⟨m0, m1, m2, m3, m4⟩, p0, p1, p2, p3, p4⟩ := box5 HQ9.out.box
            obtain ⟨⟨o0, o1, o2, o3, o4⟩, q0, q1, q2, q3, q4⟩ := box5 HQ9.out.res
            obtain ⟨ar, cr, hvr, hor⟩ := own_row (w := w) HQ9.out.own (by omega) (out5 w w9 (.int .i64 1) (.string n) v (.bool false) (.string ⟨#[]⟩)) (fun b hb => by rw [hb]; omega)
            have HOR : Hid _ := hor
            clear hor
            subst hvr
            go_wp2_with (go_at_call 20; refine Calls.mono (must_yes _ _) ?_; rintro e w_ ⟨rfl, hw_⟩; have hw3 := hw_.symm; clear hw_; subst hw3)
            refine bodyPost_ret (by simp [results, Tryz.results38, go_sem, o0, o1, o2, o3, o4]; try rfl) rfl ?_
            exact ⟨m_good HN.out ⟨ar, cr, rfl, HOR.out⟩ (rd_five HQ9.out.rd hne), gr_five HPY.out (Nat.le_refl _)⟩
        · have hi1 : i + 1 ≤ s.size := isAt_le v1
          have H6 : Hid (∀ W, Rm W b s i ad L.length c → _) := fun W h2 => take_H _ s ⟨#[47]⟩ i b _ W hs hil (by decide) true (i + 1) v1 rfl h2
          cases v2 : isAt s ⟨#[62]⟩ (i + 1)
          · have H7 : Hid (∀ W, Rm W b s (i + 1) ad L.length c → _) := fun W h2 => take_H _ s ⟨#[62]⟩ (i + 1) b _ W hs hi1 (by decide) false (i + 1) v2 rfl h2
            have HN : Hid (M = none) := HEND.out (.inr (.inl v1)) (by rw [two_at, v1, v2]; rfl) (slash_only v1)
            clear v1 v2
            go_wp2_with fail
            refine Calls.mono (H6.out _ HP2.out.rd) ?_
            rintro e w8 ⟨rfl, hr, hg⟩
            have HP8 : Hid _ := HP2.out.step hg hr
            clear hr hg
            obtain ⟨⟨m0, m1, m2, m3, m4⟩, p0, p1, p2, p3, p4⟩ := box5 HP8.out.box
            have HQ8 : Hid (QRel w0 w (w8.setCell ⟨mb, 3, none⟩ (.bool true)) mb b s (i + 1) ad L c n v R true) := HP8.out.flag true
            clear HP8
            go_wp2_with fail
            refine Calls.mono (H7.out _ HQ8.out.rd) ?_
            rintro e w9 ⟨rfl, hr, hg⟩
            have HQ9 : Hid _ := HQ8.out.step hg hr
            have HPY : Hid _ := HQ9.out.gr
            clear hr hg m0 m1 m2 m3 m4 p0 p1 p2 p3 p4
            go_wp2_with (go_at_call 20; refine Calls.mono (must_no _ _) ?_; rintro e w_ ⟨rfl, hw_⟩; have hw3 := hw_.symm; clear hw_; subst hw3)
            exact ⟨rfl, m_none HN.out rfl, HPY.out⟩
          · have H7 : Hid (∀ W, Rm W b s (i + 1) ad L.length c → _) := fun W h2 => take_H _ s ⟨#[62]⟩ (i + 1) b _ W hs hi1 (by decide) true (i + 2) v2 rfl h2
            have HN : Hid (M = some (⟨1, n, R, true, ⟨#[]⟩⟩, i + 2)) := HTWO.out (by rw [two_at, v1, v2]; rfl)
            clear v1 v2
            go_wp2_with fail
            refine Calls.mono (H6.out _ HP2.out.rd) ?_
            rintro e w8 ⟨rfl, hr, hg⟩
            have HP8 : Hid _ := HP2.out.step hg hr
            clear hr hg
            obtain ⟨⟨m0, m1, m2, m3, m4⟩, p0, p1, p2, p3, p4⟩ := box5 HP8.out.box
            have HQ8 : Hid (QRel w0 w (w8.setCell ⟨mb, 3, none⟩ (.bool true)) mb b s (i + 1) ad L c n v R true) := HP8.out.flag true
            clear HP8
            go_wp2_with fail
            refine Calls.mono (H7.out _ HQ8.out.rd) ?_
            rintro e w9 ⟨rfl, hr, hg⟩
            have HQ9 : Hid _ := HQ8.out.step hg hr
            have HPY : Hid _ := HQ9.out.gr
            clear hr hg m0 m1 m2 m3 m4 p0 p1 p2 p3 p4
            obtain ⟨⟨m0, m1, m2, m3, m4⟩, p0, p1, p2, p3, p4⟩ := box5 HQ9.out.box
            obtain ⟨⟨o0, o1, o2, o3, o4⟩, q0, q1, q2, q3, q4⟩ := box5 HQ9.out.res
            obtain ⟨ar, cr, hvr, hor⟩ := own_row (w := w) HQ9.out.own (by omega) (out5 w w9 (.int .i64 1) (.string n) v (.bool true) (.string ⟨#[]⟩)) (fun b hb => by rw [hb]; omega)
            have HOR : Hid _ := hor
            clear hor
            subst hvr
            go_wp2_with (go_at_call 20; refine Calls.mono (must_yes _ _) ?_; rintro e w_ ⟨rfl, hw_⟩; have hw3 := hw_.symm; clear hw_; subst hw3)
            refine bodyPost_ret (by simp [results, Tryz.results38, go_sem, o0, o1, o2, o3, o4]; try rfl) rfl ?_
            exact ⟨m_good HN.out ⟨ar, cr, rfl, HOR.out⟩ (rd_five HQ9.out.rd hne), gr_five HPY.out (Nat.le_refl _)⟩
      · have H2 : Hid (∀ W, Rm W b s k ad L.length c → _) := fun W h2 => blanks_H _ s k i b _ W true hs hk hi (decide_eq_true (by omega)) h2
        clear hi
        cases h47 : isAt s ⟨#[47]⟩ i
        · have H3 : Hid (∀ W, Rm W b s i ad L.length c → _) := fun W h2 => stands_H _ s ⟨#[47]⟩ i b _ W false hs hil (by decide) h47 h2
          cases h62 : isAt s ⟨#[62]⟩ i
          · have H4 : Hid (∀ W, Rm W b s i ad L.length c → _) := fun W h2 => stands_H _ s ⟨#[62]⟩ i b _ W false hs hil (by decide) h62 h2
            have h2f : isAt s ⟨#[47, 62]⟩ i = false := by rw [two_at, h47]; rfl
            have HNR : Hid (rawE s i L = none → M = none) := fun h => HBAD.out (hO.out.trans (openF_none HI.out h2f h62 hik h))
            have HGR : Hid (∀ x1 x2 j, rawE s i L = some (x1, x2, j) → ∃ g, openF s L f k R = openF s L g j (R ++ [(x1, x2)]) ∧ s.size + 2 ≤ j + g ∧ j ≤ s.size ∧ k + 2 ≤ j) := fun x1 x2 j h => openF_go hf.out hk HI.out h2f h62 hik h
            clear h47 h62 h2f HEND HTWO HONE
            cases hr : rawE s i L with
            | none =>
              have HN : Hid (M = none) := HNR.out hr
              have H5 : Hid (∀ W, Env w0 W b ad L → Rm W b s i ad L.length c → _) := fun W h1 h2 => raw_no s i b w0 ad L c W hs HV.out hil hr h1 h2
              clear hr HNR HGR
              go_wp2_with fail
              refine Calls.mono (H2.out _ hP.out.rd) ?_
              rintro e w2 ⟨rfl, hr, hg⟩
              have HP2 : Hid _ := hP.out.step hg hr
              clear hr hg
              go_wp2_with fail
              refine Calls.mono (H3.out _ HP2.out.rd) ?_
              rintro e w3 ⟨rfl, hb⟩
              have HP3 : Hid _ := HP2.out.below hb
              clear hb
              go_wp2_with fail
              refine Calls.mono (H4.out _ HP3.out.rd) ?_
              rintro e w4 ⟨rfl, hb⟩
              have HP4 : Hid _ := HP3.out.below hb
              clear hb
              go_wp2_with fail
              have HPd : Hid _ := HP4.out.below (Below.refl _ _).drew
              have hvd : w4.drew.cell? ⟨mb, 2, none⟩ = some v := (box5 HPd.out.box).1.2.2.1
              refine wp_region_any (by kernel_rfl) ?_
              try (change wpAny _ _ _ _ _ _ _ (World.drew _))
              refine wpAny_take (i := 0) (v := ?v0) rfl (by kernel_rfl) (by kernel_rfl) (by kernel_rfl) (fun _ _ _ h => h) (Or.inl ⟨by rfl, ?y0⟩) ?r0
              case y0 => (intro w; go_simp; try with_reducible rfl)
              refine wpAny_take (i := 2) (v := ?v2) rfl (by kernel_rfl) (by kernel_rfl) (by kernel_rfl) (fun _ _ _ h => h) (Or.inl ⟨by rfl, ?y2⟩) ?r2
              case y2 => (intro w; go_simp; try with_reducible rfl)
              refine wpAny_ready (rs := [1, 3]) (by kernel_rfl) (by simp) ?_
              refine AllReady.cons rfl (fun K hK => ?_) ?_
              · go_simp
                refine hK _ _ ?_
                clear hK K
                refine wpAny_ready (rs := [3]) (by kernel_rfl) (by simp) ?_
                refine AllReady.cons rfl (fun K hK => ?_) ?_
                · go_simp; go_wp2_with (go_at_call 60; refine Calls.mono (H5.out _ HPd.out.env HPd.out.rd) ?_; rintro e w5 ⟨rfl, hg⟩; have HG5 : Hid _ := gr_trans HPd.out.gr hg; clear hg); exact ⟨rfl, m_none HN.out rfl, HG5.out⟩
                · exact AllReady.nil
              · refine AllReady.cons rfl (fun K hK => ?_) ?_
                · go_simp; go_wp2_with (go_at_call 60; refine Calls.mono (H5.out _ HPd.out.env HPd.out.rd) ?_; rintro e w5 ⟨rfl, hg⟩; have HG5 : Hid _ := gr_trans HPd.out.gr hg; clear hg); exact ⟨rfl, m_none HN.out rfl, HG5.out⟩
                · exact AllReady.nil
            | some y =>
              obtain ⟨x1, x2, j⟩ := y
              obtain ⟨g, hg1, hg2, hjl, hkj⟩ := HGR.out x1 x2 j hr
              have HG1 : Hid _ := hg1
              have HG2 : Hid _ := hg2
              have H5 : Hid (∀ W, Env w0 W b ad L → Rm W b s i ad L.length c → _) := fun W h1 h2 => raw_yes s i b w0 ad L c W hs HV.out x1 x2 j hil hr h1 h2
              clear hr HNR HGR hg1 hg2
              have hRl1 : R.length + 1 ≤ 1000000 := by have := hRl.out; omega
              have HR4L : Hid ((R ++ [(x1, x2)]).length * 2 ≤ j) := by have := hRl.out; show _ ≤ _; rw [List.length_append]; simp; omega
              go_wp2_with fail
              refine Calls.mono (H2.out _ hP.out.rd) ?_
              rintro e w2 ⟨rfl, hr, hg⟩
              have HP2 : Hid _ := hP.out.step hg hr
              clear hr hg
              go_wp2_with fail
              refine Calls.mono (H3.out _ HP2.out.rd) ?_
              rintro e w3 ⟨rfl, hb⟩
              have HP3 : Hid _ := HP2.out.below hb
              clear hb
              go_wp2_with fail
              refine Calls.mono (H4.out _ HP3.out.rd) ?_
              rintro e w4 ⟨rfl, hb⟩
              have HP4 : Hid _ := HP3.out.below hb
              clear hb
              go_wp2_with fail
              have HPd : Hid _ := HP4.out.below (Below.refl _ _).drew
              have hvd : w4.drew.cell? ⟨mb, 2, none⟩ = some v := (box5 HPd.out.box).1.2.2.1
              go_region_law (first
                | (refine step_raw rfl (.tmp 26) (.tmp 29) rfl (mb + 1) v R x1 x2 w5.heap.size (by simp [Act.eval]) (by simp [Act.eval]) (HP5.out.below ((Below.refl _ _).alloc (Nat.le_refl _) _)).own hRl1 (HP5.out.below ((Below.refl _ _).alloc (Nat.le_refl _) _)).lt ⟨pairs.cell_new w5 _ _ 0 _ rfl, pairs.cell_new w5 _ _ 1 _ rfl⟩ ?_
                   intro av cv w6 ho6 hs6 hk6 h61 h62 h63
                   obtain ⟨hr6, c6, f6⟩ := (HP5.out.below ((Below.refl _ _).alloc (Nat.le_refl _) _)).add ho6 hs6 hk6 h61 h62 h63
                   have HP6 : Hid (PRel w0 w (w6.setCell ⟨mb, 2, none⟩ (.slice av (R.length + 1) cv)) mb b s j ad L c n (.slice av (R.length + 1) cv) (R ++ [(x1, x2)])) := hr6
                   clear ho6 hs6 hk6 h61 h62 h63 hr6 hv5 hv5a)
                | (go_simp
                   go_wp2_with (go_at_call 60; refine Calls.mono (H5.out _ HPd.out.env HPd.out.rd) ?_; rintro e w5 ⟨rfl, hr, hg⟩; have HP5 : Hid _ := HPd.out.step hg hr; have hv5 : w5.cell? ⟨mb, 2, none⟩ = some v := (box5 HP5.out.box).1.2.2.1; have hv5a : ∀ o, (w5.alloc o).cell? ⟨mb, 2, none⟩ = some v := fun o => (box5 (HP5.out.below ((Below.refl _ _).alloc (Nat.le_refl _) o)).box).1.2.2.1; clear hg hr)))
              all_goals
                go_roundw
                case rel => exact ⟨_, _, _, _, _, _, _, _, _, _, _, _, _, _, _, _, _, _, _, _, _, _, _, _, _, ⟨j, g, _, _, hjl, rfl, hO.out.trans HG1.out, HG2.out, HR4L.out, HP6.out⟩, rfl⟩
                case measure =>
                  have h1 := HMEAS.out
                  have h2 : intOf (((w6.setCell ⟨mb, 2, none⟩ (.slice av (R.length + 1) cv)).cell? ⟨b, 1, none⟩).getD (.int .i64 0)) = (j : Int) := by rw [HP6.out.rd.cells.2.1]; rfl
                  show s.size - _ < s.size - _
                  rw [h1, h2]
                  omega
          · have H4 : Hid (∀ W, Rm W b s i ad L.length c → _) := fun W h2 => stands_H _ s ⟨#[62]⟩ i b _ W true hs hil (by decide) h62 h2
            have HX : Hid (i = k ∨ isAt s ⟨#[47]⟩ i = true ∨ isAt s ⟨#[62]⟩ i = true) := .inr (.inr h62)
            clear h47 h62
            go_wp2_with fail
            refine Calls.mono (H2.out _ hP.out.rd) ?_
            rintro e w2 ⟨rfl, hr, hg⟩
            have HP2 : Hid _ := hP.out.step hg hr
            clear hr hg
            go_wp2_with fail
            refine Calls.mono (H3.out _ HP2.out.rd) ?_
            rintro e w3 ⟨rfl, hb⟩
            have HP3 : Hid _ := HP2.out.below hb
            clear hb
            go_wp2_with fail
            refine Calls.mono (H4.out _ HP3.out.rd) ?_
            rintro e w4 ⟨rfl, hb⟩
            have HP4 : Hid _ := HP3.out.below hb
            clear hb
            go_wp2_with fail
            cases v1 : isAt s ⟨#[47]⟩ i
            · have H6 : Hid (∀ W, Rm W b s i ad L.length c → _) := fun W h2 => take_H _ s ⟨#[47]⟩ i b _ W hs hil (by decide) false i v1 rfl h2
              have h2f : isAt s ⟨#[47, 62]⟩ i = false := by rw [two_at, v1]; rfl
              cases v2 : isAt s ⟨#[62]⟩ i
              · have H7 : Hid (∀ W, Rm W b s i ad L.length c → _) := fun W h2 => take_H _ s ⟨#[62]⟩ i b _ W hs hil (by decide) false i v2 rfl h2
                have HN : Hid (M = none) := HEND.out HX.out h2f v2
                clear v1 v2 h2f
                go_wp2_with fail
                refine Calls.mono (H6.out _ HP4.out.rd) ?_
                rintro e w8 ⟨rfl, hr, hg⟩
                have HP8 : Hid _ := HP4.out.step hg hr
                clear hr hg
                obtain ⟨⟨m0, m1, m2, m3, m4⟩, p0, p1, p2, p3, p4⟩ := box5 HP8.out.box
                have HQ8 : Hid (QRel w0 w (w8.setCell ⟨mb, 3, none⟩ (.bool false)) mb b s i ad L c n v R false) := HP8.out.flag false
                clear HP8
                go_wp2_with fail
                refine Calls.mono (H7.out _ HQ8.out.rd) ?_
                rintro e w9 ⟨rfl, hr, hg⟩
                have HQ9 : Hid _ := HQ8.out.step hg hr
                have HPY : Hid _ := HQ9.out.gr
                clear hr hg m0 m1 m2 m3 m4 p0 p1 p2 p3 p4
                go_wp2_with (go_at_call 20; refine Calls.mono (must_no _ _) ?_; rintro e w_ ⟨rfl, hw_⟩; have hw3 := hw_.symm; clear hw_; subst hw3)
                exact ⟨rfl, m_none HN.out rfl, HPY.out⟩
              · have H7 : Hid (∀ W, Rm W b s i ad L.length c → _) := fun W h2 => take_H _ s ⟨#[62]⟩ i b _ W hs hil (by decide) true (i + 1) v2 rfl h2
                have HN : Hid (M = some (⟨1, n, R, false, ⟨#[]⟩⟩, i + 1)) := HONE.out h2f v2
                clear v1 v2 h2f
                go_wp2_with fail
                refine Calls.mono (H6.out _ HP4.out.rd) ?_
                rintro e w8 ⟨rfl, hr, hg⟩
                have HP8 : Hid _ := HP4.out.step hg hr
                clear hr hg
                obtain ⟨⟨m0, m1, m2, m3, m4⟩, p0, p1, p2, p3, p4⟩ := box5 HP8.out.box
                have HQ8 : Hid (QRel w0 w (w8.setCell ⟨mb, 3, none⟩ (.bool false)) mb b s i ad L c n v R false) := HP8.out.flag false
                clear HP8
                go_wp2_with fail
                refine Calls.mono (H7.out _ HQ8.out.rd) ?_
                rintro e w9 ⟨rfl, hr, hg⟩
                have HQ9 : Hid _ := HQ8.out.step hg hr
                have HPY : Hid _ := HQ9.out.gr
                clear hr hg m0 m1 m2 m3 m4 p0 p1 p2 p3 p4
                obtain ⟨⟨m0, m1, m2, m3, m4⟩, p0, p1, p2, p3, p4⟩ := box5 HQ9.out.box
                obtain ⟨⟨o0, o1, o2, o3, o4⟩, q0, q1, q2, q3, q4⟩ := box5 HQ9.out.res
                obtain ⟨ar, cr, hvr, hor⟩ := own_row (w := w) HQ9.out.own (by omega) (out5 w w9 (.int .i64 1) (.string n) v (.bool false) (.string ⟨#[]⟩)) (fun b hb => by rw [hb]; omega)
                have HOR : Hid _ := hor
                clear hor
                subst hvr
                go_wp2_with (go_at_call 20; refine Calls.mono (must_yes _ _) ?_; rintro e w_ ⟨rfl, hw_⟩; have hw3 := hw_.symm; clear hw_; subst hw3)
                refine bodyPost_ret (by simp [results, Tryz.results38, go_sem, o0, o1, o2, o3, o4]; try rfl) rfl ?_
                exact ⟨m_good HN.out ⟨ar, cr, rfl, HOR.out⟩ (rd_five HQ9.out.rd hne), gr_five HPY.out (Nat.le_refl _)⟩
            · have hi1 : i + 1 ≤ s.size := isAt_le v1
              have H6 : Hid (∀ W, Rm W b s i ad L.length c → _) := fun W h2 => take_H _ s ⟨#[47]⟩ i b _ W hs hil (by decide) true (i + 1) v1 rfl h2
              cases v2 : isAt s ⟨#[62]⟩ (i + 1)
              · have H7 : Hid (∀ W, Rm W b s (i + 1) ad L.length c → _) := fun W h2 => take_H _ s ⟨#[62]⟩ (i + 1) b _ W hs hi1 (by decide) false (i + 1) v2 rfl h2
                have HN : Hid (M = none) := HEND.out (.inr (.inl v1)) (by rw [two_at, v1, v2]; rfl) (slash_only v1)
                clear v1 v2
                go_wp2_with fail
                refine Calls.mono (H6.out _ HP4.out.rd) ?_
                rintro e w8 ⟨rfl, hr, hg⟩
                have HP8 : Hid _ := HP4.out.step hg hr
                clear hr hg
                obtain ⟨⟨m0, m1, m2, m3, m4⟩, p0, p1, p2, p3, p4⟩ := box5 HP8.out.box
                have HQ8 : Hid (QRel w0 w (w8.setCell ⟨mb, 3, none⟩ (.bool true)) mb b s (i + 1) ad L c n v R true) := HP8.out.flag true
                clear HP8
                go_wp2_with fail
                refine Calls.mono (H7.out _ HQ8.out.rd) ?_
                rintro e w9 ⟨rfl, hr, hg⟩
                have HQ9 : Hid _ := HQ8.out.step hg hr
                have HPY : Hid _ := HQ9.out.gr
                clear hr hg m0 m1 m2 m3 m4 p0 p1 p2 p3 p4
                go_wp2_with (go_at_call 20; refine Calls.mono (must_no _ _) ?_; rintro e w_ ⟨rfl, hw_⟩; have hw3 := hw_.symm; clear hw_; subst hw3)
                exact ⟨rfl, m_none HN.out rfl, HPY.out⟩
              · have H7 : Hid (∀ W, Rm W b s (i + 1) ad L.length c → _) := fun W h2 => take_H _ s ⟨#[62]⟩ (i + 1) b _ W hs hi1 (by decide) true (i + 2) v2 rfl h2
                have HN : Hid (M = some (⟨1, n, R, true, ⟨#[]⟩⟩, i + 2)) := HTWO.out (by rw [two_at, v1, v2]; rfl)
                clear v1 v2
                go_wp2_with fail
                refine Calls.mono (H6.out _ HP4.out.rd) ?_
                rintro e w8 ⟨rfl, hr, hg⟩
                have HP8 : Hid _ := HP4.out.step hg hr
                clear hr hg
                obtain ⟨⟨m0, m1, m2, m3, m4⟩, p0, p1, p2, p3, p4⟩ := box5 HP8.out.box
                have HQ8 : Hid (QRel w0 w (w8.setCell ⟨mb, 3, none⟩ (.bool true)) mb b s (i + 1) ad L c n v R true) := HP8.out.flag true
                clear HP8
                go_wp2_with fail
                refine Calls.mono (H7.out _ HQ8.out.rd) ?_
                rintro e w9 ⟨rfl, hr, hg⟩
                have HQ9 : Hid _ := HQ8.out.step hg hr
                have HPY : Hid _ := HQ9.out.gr
                clear hr hg m0 m1 m2 m3 m4 p0 p1 p2 p3 p4
                obtain ⟨⟨m0, m1, m2, m3, m4⟩, p0, p1, p2, p3, p4⟩ := box5 HQ9.out.box
                obtain ⟨⟨o0, o1, o2, o3, o4⟩, q0, q1, q2, q3, q4⟩ := box5 HQ9.out.res
                obtain ⟨ar, cr, hvr, hor⟩ := own_row (w := w) HQ9.out.own (by omega) (out5 w w9 (.int .i64 1) (.string n) v (.bool true) (.string ⟨#[]⟩)) (fun b hb => by rw [hb]; omega)
                have HOR : Hid _ := hor
                clear hor
                subst hvr
                go_wp2_with (go_at_call 20; refine Calls.mono (must_yes _ _) ?_; rintro e w_ ⟨rfl, hw_⟩; have hw3 := hw_.symm; clear hw_; subst hw3)
                refine bodyPost_ret (by simp [results, Tryz.results38, go_sem, o0, o1, o2, o3, o4]; try rfl) rfl ?_
                exact ⟨m_good HN.out ⟨ar, cr, rfl, HOR.out⟩ (rd_five HQ9.out.rd hne), gr_five HPY.out (Nat.le_refl _)⟩
        · have H3 : Hid (∀ W, Rm W b s i ad L.length c → _) := fun W h2 => stands_H _ s ⟨#[47]⟩ i b _ W true hs hil (by decide) h47 h2
          have HX : Hid (i = k ∨ isAt s ⟨#[47]⟩ i = true ∨ isAt s ⟨#[62]⟩ i = true) := .inr (.inl h47)
          clear h47
          go_wp2_with fail
          refine Calls.mono (H2.out _ hP.out.rd) ?_
          rintro e w2 ⟨rfl, hr, hg⟩
          have HP2 : Hid _ := hP.out.step hg hr
          clear hr hg
          go_wp2_with fail
          refine Calls.mono (H3.out _ HP2.out.rd) ?_
          rintro e w3 ⟨rfl, hb⟩
          have HP3 : Hid _ := HP2.out.below hb
          clear hb
          cases v1 : isAt s ⟨#[47]⟩ i
          · have H6 : Hid (∀ W, Rm W b s i ad L.length c → _) := fun W h2 => take_H _ s ⟨#[47]⟩ i b _ W hs hil (by decide) false i v1 rfl h2
            have h2f : isAt s ⟨#[47, 62]⟩ i = false := by rw [two_at, v1]; rfl
            cases v2 : isAt s ⟨#[62]⟩ i
            · have H7 : Hid (∀ W, Rm W b s i ad L.length c → _) := fun W h2 => take_H _ s ⟨#[62]⟩ i b _ W hs hil (by decide) false i v2 rfl h2
              have HN : Hid (M = none) := HEND.out HX.out h2f v2
              clear v1 v2 h2f
              go_wp2_with fail
              refine Calls.mono (H6.out _ HP3.out.rd) ?_
              rintro e w8 ⟨rfl, hr, hg⟩
              have HP8 : Hid _ := HP3.out.step hg hr
              clear hr hg
              obtain ⟨⟨m0, m1, m2, m3, m4⟩, p0, p1, p2, p3, p4⟩ := box5 HP8.out.box
              have HQ8 : Hid (QRel w0 w (w8.setCell ⟨mb, 3, none⟩ (.bool false)) mb b s i ad L c n v R false) := HP8.out.flag false
              clear HP8
              go_wp2_with fail
              refine Calls.mono (H7.out _ HQ8.out.rd) ?_
              rintro e w9 ⟨rfl, hr, hg⟩
              have HQ9 : Hid _ := HQ8.out.step hg hr
              have HPY : Hid _ := HQ9.out.gr
              clear hr hg m0 m1 m2 m3 m4 p0 p1 p2 p3 p4
              go_wp2_with (go_at_call 20; refine Calls.mono (must_no _ _) ?_; rintro e w_ ⟨rfl, hw_⟩; have hw3 := hw_.symm; clear hw_; subst hw3)
              exact ⟨rfl, m_none HN.out rfl, HPY.out⟩
            · have H7 : Hid (∀ W, Rm W b s i ad L.length c → _) := fun W h2 => take_H _ s ⟨#[62]⟩ i b _ W hs hil (by decide) true (i + 1) v2 rfl h2
              have HN : Hid (M = some (⟨1, n, R, false, ⟨#[]⟩⟩, i + 1)) := HONE.out h2f v2
              clear v1 v2 h2f
              go_wp2_with fail
              refine Calls.mono (H6.out _ HP3.out.rd) ?_
              rintro e w8 ⟨rfl, hr, hg⟩
              have HP8 : Hid _ := HP3.out.step hg hr
              clear hr hg
              obtain ⟨⟨m0, m1, m2, m3, m4⟩, p0, p1, p2, p3, p4⟩ := box5 HP8.out.box
              have HQ8 : Hid (QRel w0 w (w8.setCell ⟨mb, 3, none⟩ (.bool false)) mb b s i ad L c n v R false) := HP8.out.flag false
              clear HP8
              go_wp2_with fail
              refine Calls.mono (H7.out _ HQ8.out.rd) ?_
              rintro e w9 ⟨rfl, hr, hg⟩
              have HQ9 : Hid _ := HQ8.out.step hg hr
              have HPY : Hid _ := HQ9.out.gr
              clear hr hg m0 m1 m2 m3 m4 p0 p1 p2 p3 p4
              obtain ⟨⟨m0, m1, m2, m3, m4⟩, p0, p1, p2, p3, p4⟩ := box5 HQ9.out.box
              obtain ⟨⟨o0, o1, o2, o3, o4⟩, q0, q1, q2, q3, q4⟩ := box5 HQ9.out.res
              obtain ⟨ar, cr, hvr, hor⟩ := own_row (w := w) HQ9.out.own (by omega) (out5 w w9 (.int .i64 1) (.string n) v (.bool false) (.string ⟨#[]⟩)) (fun b hb => by rw [hb]; omega)
              have HOR : Hid _ := hor
              clear hor
              subst hvr
              go_wp2_with (go_at_call 20; refine Calls.mono (must_yes _ _) ?_; rintro e w_ ⟨rfl, hw_⟩; have hw3 := hw_.symm; clear hw_; subst hw3)
              refine bodyPost_ret (by simp [results, Tryz.results38, go_sem, o0, o1, o2, o3, o4]; try rfl) rfl ?_
              exact ⟨m_good HN.out ⟨ar, cr, rfl, HOR.out⟩ (rd_five HQ9.out.rd hne), gr_five HPY.out (Nat.le_refl _)⟩
          · have hi1 : i + 1 ≤ s.size := isAt_le v1
            have H6 : Hid (∀ W, Rm W b s i ad L.length c → _) := fun W h2 => take_H _ s ⟨#[47]⟩ i b _ W hs hil (by decide) true (i + 1) v1 rfl h2
            cases v2 : isAt s ⟨#[62]⟩ (i + 1)
            · have H7 : Hid (∀ W, Rm W b s (i + 1) ad L.length c → _) := fun W h2 => take_H _ s ⟨#[62]⟩ (i + 1) b _ W hs hi1 (by decide) false (i + 1) v2 rfl h2
              have HN : Hid (M = none) := HEND.out (.inr (.inl v1)) (by rw [two_at, v1, v2]; rfl) (slash_only v1)
              clear v1 v2
              go_wp2_with fail
              refine Calls.mono (H6.out _ HP3.out.rd) ?_
              rintro e w8 ⟨rfl, hr, hg⟩
              have HP8 : Hid _ := HP3.out.step hg hr
              clear hr hg
              obtain ⟨⟨m0, m1, m2, m3, m4⟩, p0, p1, p2, p3, p4⟩ := box5 HP8.out.box
              have HQ8 : Hid (QRel w0 w (w8.setCell ⟨mb, 3, none⟩ (.bool true)) mb b s (i + 1) ad L c n v R true) := HP8.out.flag true
              clear HP8
              go_wp2_with fail
              refine Calls.mono (H7.out _ HQ8.out.rd) ?_
              rintro e w9 ⟨rfl, hr, hg⟩
              have HQ9 : Hid _ := HQ8.out.step hg hr
              have HPY : Hid _ := HQ9.out.gr
              clear hr hg m0 m1 m2 m3 m4 p0 p1 p2 p3 p4
              go_wp2_with (go_at_call 20; refine Calls.mono (must_no _ _) ?_; rintro e w_ ⟨rfl, hw_⟩; have hw3 := hw_.symm; clear hw_; subst hw3)
              exact ⟨rfl, m_none HN.out rfl, HPY.out⟩
            · have H7 : Hid (∀ W, Rm W b s (i + 1) ad L.length c → _) := fun W h2 => take_H _ s ⟨#[62]⟩ (i + 1) b _ W hs hi1 (by decide) true (i + 2) v2 rfl h2
              have HN : Hid (M = some (⟨1, n, R, true, ⟨#[]⟩⟩, i + 2)) := HTWO.out (by rw [two_at, v1, v2]; rfl)
              clear v1 v2
              go_wp2_with fail
              refine Calls.mono (H6.out _ HP3.out.rd) ?_
              rintro e w8 ⟨rfl, hr, hg⟩
              have HP8 : Hid _ := HP3.out.step hg hr
              clear hr hg
              obtain ⟨⟨m0, m1, m2, m3, m4⟩, p0, p1, p2, p3, p4⟩ := box5 HP8.out.box
              have HQ8 : Hid (QRel w0 w (w8.setCell ⟨mb, 3, none⟩ (.bool true)) mb b s (i + 1) ad L c n v R true) := HP8.out.flag true
              clear HP8
              go_wp2_with fail
              refine Calls.mono (H7.out _ HQ8.out.rd) ?_
              rintro e w9 ⟨rfl, hr, hg⟩
              have HQ9 : Hid _ := HQ8.out.step hg hr
              have HPY : Hid _ := HQ9.out.gr
              clear hr hg m0 m1 m2 m3 m4 p0 p1 p2 p3 p4
              obtain ⟨⟨m0, m1, m2, m3, m4⟩, p0, p1, p2, p3, p4⟩ := box5 HQ9.out.box
              obtain ⟨⟨o0, o1, o2, o3, o4⟩, q0, q1, q2, q3, q4⟩ := box5 HQ9.out.res
              obtain ⟨ar, cr, hvr, hor⟩ := own_row (w := w) HQ9.out.own (by omega) (out5 w w9 (.int .i64 1) (.string n) v (.bool true) (.string ⟨#[]⟩)) (fun b hb => by rw [hb]; omega)
              have HOR : Hid _ := hor
              clear hor
              subst hvr
              go_wp2_with (go_at_call 20; refine Calls.mono (must_yes _ _) ?_; rintro e w_ ⟨rfl, hw_⟩; have hw3 := hw_.symm; clear hw_; subst hw3)
              refine bodyPost_ret (by simp [results, Tryz.results38, go_sem, o0, o1, o2, o3, o4]; try rfl) rfl ?_
              exact ⟨m_good HN.out ⟨ar, cr, rfl, HOR.out⟩ (rd_five HQ9.out.rd hne), gr_five HPY.out (Nat.le_refl _)⟩
  · have H1 : Hid (∀ W, Env w0 W b ad L → Rm W b s (a + 1) ad L.length c → _) := fun W h1 h2 => name_no s n (a + 1) k0 b ad L.length c W hs ha hk0 hn hok h1.xt.tab.name h2
    have HN : Hid (M = none) := hM.symm.trans (chk_none (openE_no (by rw [hk0, hn]; exact hok)))
    clear hE hR hk0 hn hok hM hv
    go_enter Tryz.func38, Tryz.ntmps38
    go_wp2_with fail
    refine Calls.mono (H1.out _ (HE0.out.below ((Below.refl _ _).alloc (Nat.le_refl _) _)) (HR0.out.below ((Below.refl _ _).alloc (Nat.le_refl _) _))) ?_
    rintro e w1 ⟨rfl, hg⟩
    have HG1 : Hid (w.grownBy w1 (some b)) := gr_from hg
    clear hg
    go_wp2
    exact ⟨rfl, m_none HN.out rfl, HG1.out⟩
end Go.Proofs.YtekbpekfomblbaaGreatDoor.cuts
namespace Go.Proofs.YtekbpekfomblbaaGreatDoor.cuts
open Go.ChangeShapes Go.WideShapes Go.ChangeAt Go.RowKit
open names (splitT nameE)
open marks (blanksE)
open pairs (Pair at0 PairsAt)
open trees (Rng Out Bset)
set_option linter.unusedVariables false
theorem m_up {r : Option (MarkV × Nat)} {s : ByteArray} {b : Nat} {ad : Option Addr} {n c : Nat} {w V0 V1 V5 : World} {e : Ending} {g : Nat} (h : mOk r s b ad n c V0 V1 e) (hg : g = w.heap.size) (hlt : g < V0.heap.size) (hne : g ≠ b) (hle : w.heap.size ≤ V0.heap.size) (ho : Out (fun b => b = g) V1 V5) : mOk r s b ad n c w V5 e := by
  cases r with
  | none => exact h
  | some y =>
    obtain ⟨m, j⟩ := y
    obtain ⟨⟨a', c', he, hown⟩, hr⟩ := h
    refine ⟨⟨a', c', he, (hown.out ho (fun x hx hc => by have := hx.1; have hc' : x = g := hc; omega)).sub (fun x hx => ⟨Nat.le_trans hle hx.1, Nat.lt_of_lt_of_le hx.2 ho.size⟩)⟩, ⟨(ho.block b hr.lt (fun e => hne e.symm)).trans hr.blk⟩⟩
/-- What came is a mark's five values, or it gave up. -/
theorem m_shape {r : Option (MarkV × Nat)} {s : ByteArray} {b : Nat} {ad : Option Addr} {n c : Nat} {w W : World} {e : Ending} (h : mOk r s b ad n c w W e) : (r = none ∧ gaveUp e) ∨ ∃ m j a' c', r = some (m, j) ∧ e = .returned (.agg #[.int .i64 m.kind, .string m.name, .slice a' m.raws.length c', .bool m.empty, .string m.text]) := by
  cases r with
  | none => exact .inl ⟨rfl, h⟩
  | some y =>
    obtain ⟨m, j⟩ := y
    obtain ⟨⟨a', c', he, _⟩, _⟩ := h
    exact .inr ⟨m, j, a', c', rfl, he⟩
theorem outg (W : World) (g : Nat) (u0 u1 u2 u3 u4 : Value) : Out (fun b => b = g) W (((((W.setCell ⟨g, 0, none⟩ u0).setCell ⟨g, 1, none⟩ u1).setCell ⟨g, 2, none⟩ u2).setCell ⟨g, 3, none⟩ u3).setCell ⟨g, 4, none⟩ u4) :=
  (((((Out.refl (fun b => b = g) W).set (F := fun b => b = g) rfl _ _).set (F := fun b => b = g) rfl _ _).set (F := fun b => b = g) rfl _ _).set (F := fun b => b = g) rfl _ _).set (F := fun b => b = g) rfl _ _
theorem chk_up {s t x : ByteArray} {a j : Nat} {k : Int} (hj : toI s t a = some j) (hx : s.extract a j = x) (hb : refs.textB x = true) : chk (upE s t a k) = some (⟨k, ⟨#[]⟩, [], false, x⟩, j + t.size) := by
  subst hx
  exact chk_yes (up_some hj) hb
theorem chk_upno {s t x : ByteArray} {a j : Nat} {k : Int} (hj : toI s t a = some j) (hx : s.extract a j = x) (hb : refs.textB x = false) : chk (upE s t a k) = none := by
  subst hx
  exact chk_no (up_some hj) hb
set_option maxRecDepth 100000 in
set_option maxHeartbeats 8000000 in
theorem rd_mark (s : ByteArray) (a b : Nat) (w0 : World) (ad : Option Addr) (L : List Pair) (c : Nat) (w : World) (hs : s.size ≤ 1048576) (hv : ∀ i, i < L.length → (at0 L i).2.size ≤ 1048576) (ha : a < s.size) (hE : Env w0 w b ad L) (hR : Rm w b s a ad L.length c) : Calls Tryz.prog 22 #[.pointer (some ⟨b, 0, none⟩)] w fun e w' => mOk (markT s a L) s b ad L.length c w w' e ∧ w.grownBy w' (some b) := by
  have HE0 : Hid (Env w0 w b ad L) := hE
  have HR0 : Hid (Rm w b s a ad L.length c) := hR
  have hbl := hR.lt
  have hne : w.heap.size ≠ b := by omega
  rw [markT_chk]
  obtain ⟨M, hM⟩ : ∃ M, chk (markE s a L) = M := ⟨_, rfl⟩
  rw [hM]
  have HE : Hid (chk (markE s a L) = M) := hM
  have HV : Hid _ := hv
  clear hM hE hR hv
  unfold markE at HE
  have hal : a ≤ s.size := Nat.le_of_lt ha
  cases b1 : isAt s ⟨#[60, 33, 45, 45]⟩ a
  · have H1 : Hid (∀ W, Env w0 W b ad L → Rm W b s a ad L.length c → _) := fun W h1 h2 => take_H _ s ⟨#[60, 33, 45, 45]⟩ a b _ W hs hal (by decide) false a b1 rfl h2
    rw [b1, if_neg (by decide)] at HE
    cases b2 : isAt s ⟨#[60, 63]⟩ a
    · have H2 : Hid (∀ W, Env w0 W b ad L → Rm W b s a ad L.length c → _) := fun W h1 h2 => take_H _ s ⟨#[60, 63]⟩ a b _ W hs hal (by decide) false a b2 rfl h2
      rw [b2, if_neg (by decide)] at HE
      cases b3 : isAt s ⟨#[60, 47]⟩ a
      · have H3 : Hid (∀ W, Env w0 W b ad L → Rm W b s a ad L.length c → _) := fun W h1 h2 => take_H _ s ⟨#[60, 47]⟩ a b _ W hs hal (by decide) false a b3 rfl h2
        rw [b3, if_neg (by decide)] at HE
        cases b4 : isAt s ⟨#[60, 33, 91, 67, 68, 65, 84, 65, 91]⟩ a
        · have H4 : Hid (∀ W, Env w0 W b ad L → Rm W b s a ad L.length c → _) := fun W h1 h2 => take_H _ s ⟨#[60, 33, 91, 67, 68, 65, 84, 65, 91]⟩ a b _ W hs hal (by decide) false a b4 rfl h2
          rw [b4, if_neg (by decide)] at HE
          cases b5 : isAt s ⟨#[60]⟩ a
          · have H5 : Hid (∀ W, Env w0 W b ad L → Rm W b s a ad L.length c → _) := fun W h1 h2 => take_H _ s ⟨#[60]⟩ a b _ W hs hal (by decide) false a b5 rfl h2
            rw [b5, if_neg (by decide)] at HE
            have H6 : Hid (∀ W, Env w0 W b ad L → Rm W b s a ad L.length c → _) := fun W h1 h2 => rd_between s a b w0 ad L c W hs HV.out hal h1 h2
            rw [HE.out] at H6
            clear b1 b2 b3 b4 b5
            go_enter Tryz.func22, Tryz.ntmps22
            go_wp2_with fail
            refine Calls.mono (H1.out _ (HE0.out.below ((Below.refl _ _).alloc (Nat.le_refl _) _)) (HR0.out.below ((Below.refl _ _).alloc (Nat.le_refl _) _))) ?_
            rintro e w1 ⟨rfl, hr, hg⟩
            have HR1 : Hid _ := hr
            have HG1 : Hid (w.grownBy w1 (some b)) := gr_from hg
            have HX1 : Hid _ := gr_obj hg (heap_alloc_new w _) hne
            clear hg hr
            go_wp2_with fail
            refine Calls.mono (H2.out _ (HE0.out.step HG1.out) HR1.out) ?_
            rintro e w2 ⟨rfl, hr, hg⟩
            have HR2 : Hid _ := hr
            have HG2 : Hid (w.grownBy w2 (some b)) := gr_trans HG1.out hg
            have HX2 : Hid _ := gr_obj hg HX1.out hne
            clear hg hr
            go_wp2_with fail
            refine Calls.mono (H3.out _ (HE0.out.step HG2.out) HR2.out) ?_
            rintro e w3 ⟨rfl, hr, hg⟩
            have HR3 : Hid _ := hr
            have HG3 : Hid (w.grownBy w3 (some b)) := gr_trans HG2.out hg
            have HX3 : Hid _ := gr_obj hg HX2.out hne
            clear hg hr
            go_wp2_with fail
            refine Calls.mono (H4.out _ (HE0.out.step HG3.out) HR3.out) ?_
            rintro e w4 ⟨rfl, hr, hg⟩
            have HR4 : Hid _ := hr
            have HG4 : Hid (w.grownBy w4 (some b)) := gr_trans HG3.out hg
            have HX4 : Hid _ := gr_obj hg HX3.out hne
            clear hg hr
            go_wp2_with fail
            refine Calls.mono (H5.out _ (HE0.out.step HG4.out) HR4.out) ?_
            rintro e w5 ⟨rfl, hr, hg⟩
            have HR5 : Hid _ := hr
            have HG5 : Hid (w.grownBy w5 (some b)) := gr_trans HG4.out hg
            have HX5 : Hid _ := gr_obj hg HX4.out hne
            clear hg hr
            go_wp2_with fail
            refine Calls.mono (H6.out _ (HE0.out.step HG5.out) HR5.out) ?_
            rintro e w9 ⟨he, hg⟩
            have HG9 : Hid (w.grownBy w9 (some b)) := gr_trans HG5.out hg
            have HX9 : Hid _ := gr_obj hg HX5.out hne
            obtain ⟨o0v, o1v, o2v, o3v, o4v, hX9⟩ : ∃ u0 u1 u2 u3 u4, True ∧ w9.heap[w.heap.size]? = some (.cells #[u0, u1, u2, u3, u4] 29 (0, 0)) := ⟨_, _, _, _, _, trivial, HX9.out⟩
            clear o0v o1v o2v o3v o4v hX9
            have hgt : w.heap.size < w5.heap.size := lt_heap HX5.out
            rcases m_shape he with ⟨hr, he2⟩ | ⟨m, j, a', c', hr, he2⟩
            · have he3 : e = .panicked [{ v := .iface 9 (.string ⟨#[105, 116, 32, 100, 111, 101, 115, 32, 110, 111, 116, 32, 103, 111, 32, 111, 110, 32, 115, 111]⟩), recovered := false }] := he2
              subst he3
              have HN : Hid (M = none) := hr
              clear he he2 hr hg
              go_wp2
              exact ⟨rfl, m_none HN.out rfl, HG9.out⟩
            · have HMK : Hid _ := he
              subst he2
              clear he hr hg
              obtain ⟨⟨o0, o1, o2, o3, o4⟩, q0, q1, q2, q3, q4⟩ := box5 HX9.out
              go_wp2
              refine bodyPost_ret (by simp [results, Tryz.results22, go_sem, o0, o1, o2, o3, o4]; try rfl) rfl ?_
              exact ⟨m_up HMK.out rfl hgt hne (Nat.le_of_lt hgt) (outg _ _ _ _ _ _ _), gr_five HG9.out (Nat.le_refl _)⟩
          · have hle : a + 1 ≤ s.size := isAt_le b5
            have H5 : Hid (∀ W, Env w0 W b ad L → Rm W b s a ad L.length c → _) := fun W h1 h2 => take_H _ s ⟨#[60]⟩ a b _ W hs hal (by decide) true (a + 1) b5 rfl h2
            rw [b5, if_pos rfl] at HE
            have H6 : Hid (∀ W, Env w0 W b ad L → Rm W b s (a + 1) ad L.length c → _) := fun W h1 h2 => rd_opening s a b w0 ad L c W hs HV.out hle h1 h2
            rw [HE.out] at H6
            clear b1 b2 b3 b4 b5
            go_enter Tryz.func22, Tryz.ntmps22
            go_wp2_with fail
            refine Calls.mono (H1.out _ (HE0.out.below ((Below.refl _ _).alloc (Nat.le_refl _) _)) (HR0.out.below ((Below.refl _ _).alloc (Nat.le_refl _) _))) ?_
            rintro e w1 ⟨rfl, hr, hg⟩
            have HR1 : Hid _ := hr
            have HG1 : Hid (w.grownBy w1 (some b)) := gr_from hg
            have HX1 : Hid _ := gr_obj hg (heap_alloc_new w _) hne
            clear hg hr
            go_wp2_with fail
            refine Calls.mono (H2.out _ (HE0.out.step HG1.out) HR1.out) ?_
            rintro e w2 ⟨rfl, hr, hg⟩
            have HR2 : Hid _ := hr
            have HG2 : Hid (w.grownBy w2 (some b)) := gr_trans HG1.out hg
            have HX2 : Hid _ := gr_obj hg HX1.out hne
            clear hg hr
            go_wp2_with fail
            refine Calls.mono (H3.out _ (HE0.out.step HG2.out) HR2.out) ?_
            rintro e w3 ⟨rfl, hr, hg⟩
            have HR3 : Hid _ := hr
            have HG3 : Hid (w.grownBy w3 (some b)) := gr_trans HG2.out hg
            have HX3 : Hid _ := gr_obj hg HX2.out hne
            clear hg hr
            go_wp2_with fail
            refine Calls.mono (H4.out _ (HE0.out.step HG3.out) HR3.out) ?_
            rintro e w4 ⟨rfl, hr, hg⟩
            have HR4 : Hid _ := hr
            have HG4 : Hid (w.grownBy w4 (some b)) := gr_trans HG3.out hg
            have HX4 : Hid _ := gr_obj hg HX3.out hne
            clear hg hr
            go_wp2_with fail
            refine Calls.mono (H5.out _ (HE0.out.step HG4.out) HR4.out) ?_
            rintro e w5 ⟨rfl, hr, hg⟩
            have HR5 : Hid _ := hr
            have HG5 : Hid (w.grownBy w5 (some b)) := gr_trans HG4.out hg
            have HX5 : Hid _ := gr_obj hg HX4.out hne
            clear hg hr
            go_wp2_with fail
            refine Calls.mono (H6.out _ (HE0.out.step HG5.out) HR5.out) ?_
            rintro e w9 ⟨he, hg⟩
            have HG9 : Hid (w.grownBy w9 (some b)) := gr_trans HG5.out hg
            have HX9 : Hid _ := gr_obj hg HX5.out hne
            obtain ⟨o0v, o1v, o2v, o3v, o4v, hX9⟩ : ∃ u0 u1 u2 u3 u4, True ∧ w9.heap[w.heap.size]? = some (.cells #[u0, u1, u2, u3, u4] 29 (0, 0)) := ⟨_, _, _, _, _, trivial, HX9.out⟩
            clear o0v o1v o2v o3v o4v hX9
            have hgt : w.heap.size < w5.heap.size := lt_heap HX5.out
            rcases m_shape he with ⟨hr, he2⟩ | ⟨m, j, a', c', hr, he2⟩
            · have he3 : e = .panicked [{ v := .iface 9 (.string ⟨#[105, 116, 32, 100, 111, 101, 115, 32, 110, 111, 116, 32, 103, 111, 32, 111, 110, 32, 115, 111]⟩), recovered := false }] := he2
              subst he3
              have HN : Hid (M = none) := hr
              clear he he2 hr hg
              go_wp2
              exact ⟨rfl, m_none HN.out rfl, HG9.out⟩
            · have HMK : Hid _ := he
              subst he2
              clear he hr hg
              obtain ⟨⟨o0, o1, o2, o3, o4⟩, q0, q1, q2, q3, q4⟩ := box5 HX9.out
              go_wp2
              refine bodyPost_ret (by simp [results, Tryz.results22, go_sem, o0, o1, o2, o3, o4]; try rfl) rfl ?_
              exact ⟨m_up HMK.out rfl hgt hne (Nat.le_of_lt hgt) (outg _ _ _ _ _ _ _), gr_five HG9.out (Nat.le_refl _)⟩
        · have hle : a + 9 ≤ s.size := isAt_le b4
          have H4 : Hid (∀ W, Env w0 W b ad L → Rm W b s a ad L.length c → _) := fun W h1 h2 => take_H _ s ⟨#[60, 33, 91, 67, 68, 65, 84, 65, 91]⟩ a b _ W hs hal (by decide) true (a + 9) b4 rfl h2
          rw [b4, if_pos rfl] at HE
          cases hj : toI s ⟨#[93, 93, 62]⟩ (a + 9) with
          | none =>
            have H6 : Hid (∀ W, Env w0 W b ad L → Rm W b s (a + 9) ad L.length c → _) := fun W h1 h2 => txt_miss hs hle (by decide) hj h1 h2
            have HN : Hid (M = none) := HE.out.symm.trans (chk_none (up_none hj))
            clear b1 b2 b3 b4 hj
            go_enter Tryz.func22, Tryz.ntmps22
            go_wp2_with fail
            refine Calls.mono (H1.out _ (HE0.out.below ((Below.refl _ _).alloc (Nat.le_refl _) _)) (HR0.out.below ((Below.refl _ _).alloc (Nat.le_refl _) _))) ?_
            rintro e w1 ⟨rfl, hr, hg⟩
            have HR1 : Hid _ := hr
            have HG1 : Hid (w.grownBy w1 (some b)) := gr_from hg
            have HX1 : Hid _ := gr_obj hg (heap_alloc_new w _) hne
            clear hg hr
            go_wp2_with fail
            refine Calls.mono (H2.out _ (HE0.out.step HG1.out) HR1.out) ?_
            rintro e w2 ⟨rfl, hr, hg⟩
            have HR2 : Hid _ := hr
            have HG2 : Hid (w.grownBy w2 (some b)) := gr_trans HG1.out hg
            have HX2 : Hid _ := gr_obj hg HX1.out hne
            clear hg hr
            go_wp2_with fail
            refine Calls.mono (H3.out _ (HE0.out.step HG2.out) HR2.out) ?_
            rintro e w3 ⟨rfl, hr, hg⟩
            have HR3 : Hid _ := hr
            have HG3 : Hid (w.grownBy w3 (some b)) := gr_trans HG2.out hg
            have HX3 : Hid _ := gr_obj hg HX2.out hne
            clear hg hr
            go_wp2_with fail
            refine Calls.mono (H4.out _ (HE0.out.step HG3.out) HR3.out) ?_
            rintro e w4 ⟨rfl, hr, hg⟩
            have HR4 : Hid _ := hr
            have HG4 : Hid (w.grownBy w4 (some b)) := gr_trans HG3.out hg
            have HX4 : Hid _ := gr_obj hg HX3.out hne
            clear hg hr
            go_wp2_with fail
            refine Calls.mono (H6.out _ (HE0.out.step HG4.out) HR4.out) ?_
            rintro e w5 ⟨rfl, hg⟩
            have HG5 : Hid (w.grownBy w5 (some b)) := gr_trans HG4.out hg
            clear hg
            go_wp2
            exact ⟨rfl, m_none HN.out rfl, HG5.out⟩
          | some j =>
            obtain ⟨x, hx⟩ : ∃ x, s.extract (a + 9) j = x := ⟨_, rfl⟩
            cases hb : refs.textB x
            · have H6 : Hid (∀ W, Env w0 W b ad L → Rm W b s (a + 9) ad L.length c → _) := fun W h1 h2 => txt_long hs hle (by decide) hj hx hb h1 h2
              have HN : Hid (M = none) := HE.out.symm.trans (chk_upno hj hx hb)
              clear b1 b2 b3 b4 hj hx hb
              go_enter Tryz.func22, Tryz.ntmps22
              go_wp2_with fail
              refine Calls.mono (H1.out _ (HE0.out.below ((Below.refl _ _).alloc (Nat.le_refl _) _)) (HR0.out.below ((Below.refl _ _).alloc (Nat.le_refl _) _))) ?_
              rintro e w1 ⟨rfl, hr, hg⟩
              have HR1 : Hid _ := hr
              have HG1 : Hid (w.grownBy w1 (some b)) := gr_from hg
              have HX1 : Hid _ := gr_obj hg (heap_alloc_new w _) hne
              clear hg hr
              go_wp2_with fail
              refine Calls.mono (H2.out _ (HE0.out.step HG1.out) HR1.out) ?_
              rintro e w2 ⟨rfl, hr, hg⟩
              have HR2 : Hid _ := hr
              have HG2 : Hid (w.grownBy w2 (some b)) := gr_trans HG1.out hg
              have HX2 : Hid _ := gr_obj hg HX1.out hne
              clear hg hr
              go_wp2_with fail
              refine Calls.mono (H3.out _ (HE0.out.step HG2.out) HR2.out) ?_
              rintro e w3 ⟨rfl, hr, hg⟩
              have HR3 : Hid _ := hr
              have HG3 : Hid (w.grownBy w3 (some b)) := gr_trans HG2.out hg
              have HX3 : Hid _ := gr_obj hg HX2.out hne
              clear hg hr
              go_wp2_with fail
              refine Calls.mono (H4.out _ (HE0.out.step HG3.out) HR3.out) ?_
              rintro e w4 ⟨rfl, hr, hg⟩
              have HR4 : Hid _ := hr
              have HG4 : Hid (w.grownBy w4 (some b)) := gr_trans HG3.out hg
              have HX4 : Hid _ := gr_obj hg HX3.out hne
              clear hg hr
              go_wp2_with fail
              refine Calls.mono (H6.out _ (HE0.out.step HG4.out) HR4.out) ?_
              rintro e w5 ⟨rfl, hg⟩
              have HG5 : Hid (w.grownBy w5 (some b)) := gr_trans HG4.out hg
              clear hg
              go_wp2
              exact ⟨rfl, m_none HN.out rfl, HG5.out⟩
            · have H6 : Hid (∀ W, Env w0 W b ad L → Rm W b s (a + 9) ad L.length c → _) := fun W h1 h2 => txt_some hs hle (by decide) hj hx hb h1 h2
              have HN : Hid (M = some (⟨3, ⟨#[]⟩, [], false, x⟩, j + 3)) := HE.out.symm.trans (chk_up hj hx hb)
              clear b1 b2 b3 b4 hj hx hb
              go_enter Tryz.func22, Tryz.ntmps22
              go_wp2_with fail
              refine Calls.mono (H1.out _ (HE0.out.below ((Below.refl _ _).alloc (Nat.le_refl _) _)) (HR0.out.below ((Below.refl _ _).alloc (Nat.le_refl _) _))) ?_
              rintro e w1 ⟨rfl, hr, hg⟩
              have HR1 : Hid _ := hr
              have HG1 : Hid (w.grownBy w1 (some b)) := gr_from hg
              have HX1 : Hid _ := gr_obj hg (heap_alloc_new w _) hne
              clear hg hr
              go_wp2_with fail
              refine Calls.mono (H2.out _ (HE0.out.step HG1.out) HR1.out) ?_
              rintro e w2 ⟨rfl, hr, hg⟩
              have HR2 : Hid _ := hr
              have HG2 : Hid (w.grownBy w2 (some b)) := gr_trans HG1.out hg
              have HX2 : Hid _ := gr_obj hg HX1.out hne
              clear hg hr
              go_wp2_with fail
              refine Calls.mono (H3.out _ (HE0.out.step HG2.out) HR2.out) ?_
              rintro e w3 ⟨rfl, hr, hg⟩
              have HR3 : Hid _ := hr
              have HG3 : Hid (w.grownBy w3 (some b)) := gr_trans HG2.out hg
              have HX3 : Hid _ := gr_obj hg HX2.out hne
              clear hg hr
              go_wp2_with fail
              refine Calls.mono (H4.out _ (HE0.out.step HG3.out) HR3.out) ?_
              rintro e w4 ⟨rfl, hr, hg⟩
              have HR4 : Hid _ := hr
              have HG4 : Hid (w.grownBy w4 (some b)) := gr_trans HG3.out hg
              have HX4 : Hid _ := gr_obj hg HX3.out hne
              clear hg hr
              go_wp2_with fail
              refine Calls.mono (H6.out _ (HE0.out.step HG4.out) HR4.out) ?_
              rintro e w5 ⟨rfl, hr, hg⟩
              have HR5 : Hid _ := hr
              have HG5 : Hid (w.grownBy w5 (some b)) := gr_trans HG4.out hg
              have HX5 : Hid _ := gr_obj hg HX4.out hne
              clear hg hr
              obtain ⟨⟨o0, o1, o2, o3, o4⟩, q0, q1, q2, q3, q4⟩ := box5 HX5.out
              go_wp2
              refine bodyPost_ret (by simp [results, Tryz.results22, go_sem, o0, o1, o2, o3, o4]; try rfl) rfl ?_
              exact ⟨m_plain HN.out rfl (rd_five HR5.out hne), gr_five HG5.out (Nat.le_refl _)⟩
      · have hle : a + 2 ≤ s.size := isAt_le b3
        have H3 : Hid (∀ W, Env w0 W b ad L → Rm W b s a ad L.length c → _) := fun W h1 h2 => take_H _ s ⟨#[60, 47]⟩ a b _ W hs hal (by decide) true (a + 2) b3 rfl h2
        rw [b3, if_pos rfl] at HE
        have H6 : Hid (∀ W, Env w0 W b ad L → Rm W b s (a + 2) ad L.length c → _) := fun W h1 h2 => rd_closing s a b w0 ad L c W hs HV.out hle h1 h2
        rw [HE.out] at H6
        clear b1 b2 b3
        go_enter Tryz.func22, Tryz.ntmps22
        go_wp2_with fail
        refine Calls.mono (H1.out _ (HE0.out.below ((Below.refl _ _).alloc (Nat.le_refl _) _)) (HR0.out.below ((Below.refl _ _).alloc (Nat.le_refl _) _))) ?_
        rintro e w1 ⟨rfl, hr, hg⟩
        have HR1 : Hid _ := hr
        have HG1 : Hid (w.grownBy w1 (some b)) := gr_from hg
        have HX1 : Hid _ := gr_obj hg (heap_alloc_new w _) hne
        clear hg hr
        go_wp2_with fail
        refine Calls.mono (H2.out _ (HE0.out.step HG1.out) HR1.out) ?_
        rintro e w2 ⟨rfl, hr, hg⟩
        have HR2 : Hid _ := hr
        have HG2 : Hid (w.grownBy w2 (some b)) := gr_trans HG1.out hg
        have HX2 : Hid _ := gr_obj hg HX1.out hne
        clear hg hr
        go_wp2_with fail
        refine Calls.mono (H3.out _ (HE0.out.step HG2.out) HR2.out) ?_
        rintro e w3 ⟨rfl, hr, hg⟩
        have HR3 : Hid _ := hr
        have HG3 : Hid (w.grownBy w3 (some b)) := gr_trans HG2.out hg
        have HX3 : Hid _ := gr_obj hg HX2.out hne
        clear hg hr
        go_wp2_with fail
        refine Calls.mono (H6.out _ (HE0.out.step HG3.out) HR3.out) ?_
        rintro e w9 ⟨he, hg⟩
        have HG9 : Hid (w.grownBy w9 (some b)) := gr_trans HG3.out hg
        have HX9 : Hid _ := gr_obj hg HX3.out hne
        obtain ⟨o0v, o1v, o2v, o3v, o4v, hX9⟩ : ∃ u0 u1 u2 u3 u4, True ∧ w9.heap[w.heap.size]? = some (.cells #[u0, u1, u2, u3, u4] 29 (0, 0)) := ⟨_, _, _, _, _, trivial, HX9.out⟩
        clear o0v o1v o2v o3v o4v hX9
        have hgt : w.heap.size < w3.heap.size := lt_heap HX3.out
        rcases m_shape he with ⟨hr, he2⟩ | ⟨m, j, a', c', hr, he2⟩
        · have he3 : e = .panicked [{ v := .iface 9 (.string ⟨#[105, 116, 32, 100, 111, 101, 115, 32, 110, 111, 116, 32, 103, 111, 32, 111, 110, 32, 115, 111]⟩), recovered := false }] := he2
          subst he3
          have HN : Hid (M = none) := hr
          clear he he2 hr hg
          go_wp2
          exact ⟨rfl, m_none HN.out rfl, HG9.out⟩
        · have HMK : Hid _ := he
          subst he2
          clear he hr hg
          obtain ⟨⟨o0, o1, o2, o3, o4⟩, q0, q1, q2, q3, q4⟩ := box5 HX9.out
          go_wp2
          refine bodyPost_ret (by simp [results, Tryz.results22, go_sem, o0, o1, o2, o3, o4]; try rfl) rfl ?_
          exact ⟨m_up HMK.out rfl hgt hne (Nat.le_of_lt hgt) (outg _ _ _ _ _ _ _), gr_five HG9.out (Nat.le_refl _)⟩
    · have hle : a + 2 ≤ s.size := isAt_le b2
      have H2 : Hid (∀ W, Env w0 W b ad L → Rm W b s a ad L.length c → _) := fun W h1 h2 => take_H _ s ⟨#[60, 63]⟩ a b _ W hs hal (by decide) true (a + 2) b2 rfl h2
      rw [b2, if_pos rfl] at HE
      have H6 : Hid (∀ W, Env w0 W b ad L → Rm W b s (a + 2) ad L.length c → _) := fun W h1 h2 => rd_told s a b w0 ad L c W hs HV.out hle h1 h2
      rw [HE.out] at H6
      clear b1 b2
      go_enter Tryz.func22, Tryz.ntmps22
      go_wp2_with fail
      refine Calls.mono (H1.out _ (HE0.out.below ((Below.refl _ _).alloc (Nat.le_refl _) _)) (HR0.out.below ((Below.refl _ _).alloc (Nat.le_refl _) _))) ?_
      rintro e w1 ⟨rfl, hr, hg⟩
      have HR1 : Hid _ := hr
      have HG1 : Hid (w.grownBy w1 (some b)) := gr_from hg
      have HX1 : Hid _ := gr_obj hg (heap_alloc_new w _) hne
      clear hg hr
      go_wp2_with fail
      refine Calls.mono (H2.out _ (HE0.out.step HG1.out) HR1.out) ?_
      rintro e w2 ⟨rfl, hr, hg⟩
      have HR2 : Hid _ := hr
      have HG2 : Hid (w.grownBy w2 (some b)) := gr_trans HG1.out hg
      have HX2 : Hid _ := gr_obj hg HX1.out hne
      clear hg hr
      go_wp2_with fail
      refine Calls.mono (H6.out _ (HE0.out.step HG2.out) HR2.out) ?_
      rintro e w9 ⟨he, hg⟩
      have HG9 : Hid (w.grownBy w9 (some b)) := gr_trans HG2.out hg
      have HX9 : Hid _ := gr_obj hg HX2.out hne
      obtain ⟨o0v, o1v, o2v, o3v, o4v, hX9⟩ : ∃ u0 u1 u2 u3 u4, True ∧ w9.heap[w.heap.size]? = some (.cells #[u0, u1, u2, u3, u4] 29 (0, 0)) := ⟨_, _, _, _, _, trivial, HX9.out⟩
      clear o0v o1v o2v o3v o4v hX9
      have hgt : w.heap.size < w2.heap.size := lt_heap HX2.out
      rcases m_shape he with ⟨hr, he2⟩ | ⟨m, j, a', c', hr, he2⟩
      · have he3 : e = .panicked [{ v := .iface 9 (.string ⟨#[105, 116, 32, 100, 111, 101, 115, 32, 110, 111, 116, 32, 103, 111, 32, 111, 110, 32, 115, 111]⟩), recovered := false }] := he2
        subst he3
        have HN : Hid (M = none) := hr
        clear he he2 hr hg
        go_wp2
        exact ⟨rfl, m_none HN.out rfl, HG9.out⟩
      · have HMK : Hid _ := he
        subst he2
        clear he hr hg
        obtain ⟨⟨o0, o1, o2, o3, o4⟩, q0, q1, q2, q3, q4⟩ := box5 HX9.out
        go_wp2
        refine bodyPost_ret (by simp [results, Tryz.results22, go_sem, o0, o1, o2, o3, o4]; try rfl) rfl ?_
        exact ⟨m_up HMK.out rfl hgt hne (Nat.le_of_lt hgt) (outg _ _ _ _ _ _ _), gr_five HG9.out (Nat.le_refl _)⟩
  · have hle : a + 4 ≤ s.size := isAt_le b1
    have H1 : Hid (∀ W, Env w0 W b ad L → Rm W b s a ad L.length c → _) := fun W h1 h2 => take_H _ s ⟨#[60, 33, 45, 45]⟩ a b _ W hs hal (by decide) true (a + 4) b1 rfl h2
    rw [b1, if_pos rfl] at HE
    cases hj : toI s ⟨#[45, 45, 62]⟩ (a + 4) with
    | none =>
      have H6 : Hid (∀ W, Env w0 W b ad L → Rm W b s (a + 4) ad L.length c → _) := fun W h1 h2 => txt_miss hs hle (by decide) hj h1 h2
      have HN : Hid (M = none) := HE.out.symm.trans (chk_none (up_none hj))
      clear b1 hj
      go_enter Tryz.func22, Tryz.ntmps22
      go_wp2_with fail
      refine Calls.mono (H1.out _ (HE0.out.below ((Below.refl _ _).alloc (Nat.le_refl _) _)) (HR0.out.below ((Below.refl _ _).alloc (Nat.le_refl _) _))) ?_
      rintro e w1 ⟨rfl, hr, hg⟩
      have HR1 : Hid _ := hr
      have HG1 : Hid (w.grownBy w1 (some b)) := gr_from hg
      have HX1 : Hid _ := gr_obj hg (heap_alloc_new w _) hne
      clear hg hr
      go_wp2_with fail
      refine Calls.mono (H6.out _ (HE0.out.step HG1.out) HR1.out) ?_
      rintro e w2 ⟨rfl, hg⟩
      have HG2 : Hid (w.grownBy w2 (some b)) := gr_trans HG1.out hg
      clear hg
      go_wp2
      exact ⟨rfl, m_none HN.out rfl, HG2.out⟩
    | some j =>
      obtain ⟨x, hx⟩ : ∃ x, s.extract (a + 4) j = x := ⟨_, rfl⟩
      cases hb : refs.textB x
      · have H6 : Hid (∀ W, Env w0 W b ad L → Rm W b s (a + 4) ad L.length c → _) := fun W h1 h2 => txt_long hs hle (by decide) hj hx hb h1 h2
        have HN : Hid (M = none) := HE.out.symm.trans (chk_upno hj hx hb)
        clear b1 hj hx hb
        go_enter Tryz.func22, Tryz.ntmps22
        go_wp2_with fail
        refine Calls.mono (H1.out _ (HE0.out.below ((Below.refl _ _).alloc (Nat.le_refl _) _)) (HR0.out.below ((Below.refl _ _).alloc (Nat.le_refl _) _))) ?_
        rintro e w1 ⟨rfl, hr, hg⟩
        have HR1 : Hid _ := hr
        have HG1 : Hid (w.grownBy w1 (some b)) := gr_from hg
        have HX1 : Hid _ := gr_obj hg (heap_alloc_new w _) hne
        clear hg hr
        go_wp2_with fail
        refine Calls.mono (H6.out _ (HE0.out.step HG1.out) HR1.out) ?_
        rintro e w2 ⟨rfl, hg⟩
        have HG2 : Hid (w.grownBy w2 (some b)) := gr_trans HG1.out hg
        clear hg
        go_wp2
        exact ⟨rfl, m_none HN.out rfl, HG2.out⟩
      · have H6 : Hid (∀ W, Env w0 W b ad L → Rm W b s (a + 4) ad L.length c → _) := fun W h1 h2 => txt_some hs hle (by decide) hj hx hb h1 h2
        have HN : Hid (M = some (⟨4, ⟨#[]⟩, [], false, x⟩, j + 3)) := HE.out.symm.trans (chk_up hj hx hb)
        clear b1 hj hx hb
        go_enter Tryz.func22, Tryz.ntmps22
        go_wp2_with fail
        refine Calls.mono (H1.out _ (HE0.out.below ((Below.refl _ _).alloc (Nat.le_refl _) _)) (HR0.out.below ((Below.refl _ _).alloc (Nat.le_refl _) _))) ?_
        rintro e w1 ⟨rfl, hr, hg⟩
        have HR1 : Hid _ := hr
        have HG1 : Hid (w.grownBy w1 (some b)) := gr_from hg
        have HX1 : Hid _ := gr_obj hg (heap_alloc_new w _) hne
        clear hg hr
        go_wp2_with fail
        refine Calls.mono (H6.out _ (HE0.out.step HG1.out) HR1.out) ?_
        rintro e w2 ⟨rfl, hr, hg⟩
        have HR2 : Hid _ := hr
        have HG2 : Hid (w.grownBy w2 (some b)) := gr_trans HG1.out hg
        have HX2 : Hid _ := gr_obj hg HX1.out hne
        clear hg hr
        obtain ⟨⟨o0, o1, o2, o3, o4⟩, q0, q1, q2, q3, q4⟩ := box5 HX2.out
        go_wp2
        refine bodyPost_ret (by simp [results, Tryz.results22, go_sem, o0, o1, o2, o3, o4]; try rfl) rfl ?_
        exact ⟨m_plain HN.out rfl (rd_five HR2.out hne), gr_five HG2.out (Nat.le_refl _)⟩
end Go.Proofs.YtekbpekfomblbaaGreatDoor.cuts
namespace Go.Proofs.YtekbpekfomblbaaGreatDoor.cuts
open Go.ChangeShapes Go.WideShapes Go.ChangeAt Go.RowKit
open names (splitT nameE)
open marks (blanksE)
open pairs (Pair at0 PairsAt)
open trees (Rng Out Bset)
set_option linter.unusedVariables false
def zero7 (w : World) (x y z : Nat) : World :=
  (((((((w.setCell ⟨x, 0, none⟩ (.int .i64 0)).setCell ⟨x, 1, none⟩ (.string ⟨#[]⟩)).setCell ⟨x, 2, none⟩ (.slice none 0 0)).setCell ⟨x, 3, none⟩ (.bool false)).setCell ⟨x, 4, none⟩ (.string ⟨#[]⟩)).setCell ⟨y, 0, none⟩ (.int .i64 0)).setCell ⟨z, 0, none⟩ (.bool false))
/-- The three named answers' boxes. -/
structure Three (w : World) (x y z : Nat) (u0 u1 u2 u3 u4 v u : Value) : Prop where
  m : w.heap[x]? = some (.cells #[u0, u1, u2, u3, u4] 29 (0, 0))
  n : w.heap[y]? = some (.cells #[v] 3 (0, 0))
  o : w.heap[z]? = some (.cells #[u] 4 (0, 0))
  xy : x ≠ y
  xz : x ≠ z
  yz : y ≠ z
theorem one_box {w : World} {b : Nat} {t : TypeId} {c0 : Value} (h : w.heap[b]? = some (.cells #[c0] t (0, 0))) : w.cell? ⟨b, 0, none⟩ = some c0 ∧ w.frozen? ⟨b, 0, none⟩ = false := by
  simp [World.cell?, World.frozen?, h]
theorem Three.set5 {w : World} {x y z : Nat} {u0 u1 u2 u3 u4 v u : Value} (h : Three w x y z u0 u1 u2 u3 u4 v u) (c0 c1 c2 c3 c4 : Value) : Three (((((w.setCell ⟨x, 0, none⟩ c0).setCell ⟨x, 1, none⟩ c1).setCell ⟨x, 2, none⟩ c2).setCell ⟨x, 3, none⟩ c3).setCell ⟨x, 4, none⟩ c4) x y z c0 c1 c2 c3 c4 v u := by
  have hn : ∀ (W : World) (i : Nat) (c : Value), (W.setCell ⟨x, i, none⟩ c).heap[y]? = W.heap[y]? := fun W i c => Below.heap_setCell W ⟨x, i, none⟩ c y (fun e => h.xy e.symm)
  have ho : ∀ (W : World) (i : Nat) (c : Value), (W.setCell ⟨x, i, none⟩ c).heap[z]? = W.heap[z]? := fun W i c => Below.heap_setCell W ⟨x, i, none⟩ c z (fun e => h.xz e.symm)
  refine ⟨?_, ?_, ?_, h.xy, h.xz, h.yz⟩
  · rw [pairs.block_set _ (pairs.block_set _ (pairs.block_set _ (pairs.block_set _ (pairs.block_set _ h.m))))]; rfl
  · rw [hn, hn, hn, hn, hn]; exact h.n
  · rw [ho, ho, ho, ho, ho]; exact h.o
theorem Three.setN {w : World} {x y z : Nat} {u0 u1 u2 u3 u4 v u : Value} (h : Three w x y z u0 u1 u2 u3 u4 v u) (c : Value) : Three (w.setCell ⟨y, 0, none⟩ c) x y z u0 u1 u2 u3 u4 c u := by
  refine ⟨?_, ?_, ?_, h.xy, h.xz, h.yz⟩
  · rw [Below.heap_setCell w ⟨y, 0, none⟩ c x h.xy]; exact h.m
  · rw [pairs.block_set _ h.n]; rfl
  · rw [Below.heap_setCell w ⟨y, 0, none⟩ c z (fun e => h.yz e.symm)]; exact h.o
theorem Three.setO {w : World} {x y z : Nat} {u0 u1 u2 u3 u4 v u : Value} (h : Three w x y z u0 u1 u2 u3 u4 v u) (c : Value) : Three (w.setCell ⟨z, 0, none⟩ c) x y z u0 u1 u2 u3 u4 v c := by
  refine ⟨?_, ?_, ?_, h.xy, h.xz, h.yz⟩
  · rw [Below.heap_setCell w ⟨z, 0, none⟩ c x h.xz]; exact h.m
  · rw [Below.heap_setCell w ⟨z, 0, none⟩ c y h.yz]; exact h.n
  · rw [pairs.block_set _ h.o]; rfl
set_option maxRecDepth 100000 in
set_option maxHeartbeats 4000000 in
theorem catch_pan (x y z : Nat) (u0 u1 u2 u3 u4 v u : Value) (t : TypeId) (pv : Value) (older : List PanicEntry) (w : World) (h : Three w x y z u0 u1 u2 u3 u4 v u) :
    CallsD Tryz.prog 19 #[.pointer (some ⟨x, 0, none⟩), .pointer (some ⟨y, 0, none⟩), .pointer (some ⟨z, 0, none⟩)] (.panicking ({ v := .iface t pv, recovered := false } :: older)) w fun e u' w' =>
      e = .returned (.tuple #[]) ∧ u' = .panicking ({ v := .iface t pv, recovered := true } :: older) ∧ w' = zero7 w x y z := by
  obtain ⟨⟨o0, o1, o2, o3, o4⟩, q0, q1, q2, q3, q4⟩ := box5 h.m
  obtain ⟨n0, n1⟩ := one_box (h.set5 (.int .i64 0) (.string ⟨#[]⟩) (.slice none 0 0) (.bool false) (.string ⟨#[]⟩)).n
  obtain ⟨k0, k1⟩ := one_box ((h.set5 (.int .i64 0) (.string ⟨#[]⟩) (.slice none 0 0) (.bool false) (.string ⟨#[]⟩)).setN (.int .i64 0)).o
  refine callsD_of_wpS Tryz.func19 rfl fun c₀ cs hu => ?_
  apply wpS_seq
  apply wpS_region
  simp [wpOpsS, go_sem, recoverD, hu, Tryz.ntmps19, Exit.thenS]
  refine wpS_cond (t := true) (by simp [Act.eval, Array.replicate]) ?_
  simp only [if_true]
  apply wpS_region
  simp [wpOpsS, go_sem, o0, o1, o2, o3, o4, q0, q1, q2, q3, q4, n0, n1, k0, k1, bodyPostS, results, Tryz.results19]
  rfl
theorem catch_idle (p q r : Addr) (w : World) :
    CallsD Tryz.prog 19 #[.pointer (some p), .pointer (some q), .pointer (some r)] .returning w fun e u' w' => e = .returned (.tuple #[]) ∧ u' = .returning ∧ w' = w := by
  refine callsD_of_wpS Tryz.func19 rfl fun c₀ cs hu => ?_
  apply wpS_seq
  apply wpS_region
  simp [wpOpsS, go_sem, recoverD, hu, Tryz.ntmps19, Exit.thenS]
  refine wpS_cond (t := false) (by simp [Act.eval, Array.replicate]) ?_
  simp only [Bool.false_eq_true, if_false]
  refine wpS_of_wp (wp_skip ?_)
  cases c₀
  simp_all [bodyPostS, results, Tryz.results19]
theorem bel_grown {B : Nat} {w W W' : World} {b : Nat} (h : Below B w W) (hg : W.grownBy W' (some b)) (hb : B ≤ b) (hB : B ≤ W.heap.size) : Below B w W' :=
  h.trans ⟨hg.os, hg.tape, hg.output, hg.size, fun k hk => hg.block k (Nat.lt_of_lt_of_le hk hB) (fun e => by cases e; omega)⟩
theorem zero7_below {w W : World} {x y z : Nat} (h : Below w.heap.size w W) (hx : w.heap.size ≤ x) (hy : w.heap.size ≤ y) (hz : w.heap.size ≤ z) : Below w.heap.size w (zero7 W x y z) :=
  pairs.below_set (pairs.below_set (pairs.below_set (pairs.below_set (pairs.below_set (pairs.below_set (pairs.below_set h hx) hx) hx) hx) hx) hy) hz
theorem Three.zero {w : World} {x y z : Nat} {u0 u1 u2 u3 u4 v u : Value} (h : Three w x y z u0 u1 u2 u3 u4 v u) : Three (zero7 w x y z) x y z (.int .i64 0) (.string ⟨#[]⟩) (.slice none 0 0) (.bool false) (.string ⟨#[]⟩) (.int .i64 0) (.bool false) :=
  ((h.set5 (.int .i64 0) (.string ⟨#[]⟩) (.slice none 0 0) (.bool false) (.string ⟨#[]⟩)).setN (.int .i64 0)).setO (.bool false)
theorem Three.grown {w w' : World} {x y z b : Nat} {u0 u1 u2 u3 u4 v u : Value} (h : Three w x y z u0 u1 u2 u3 u4 v u) (hg : w.grownBy w' (some b)) (hx : x ≠ b) (hy : y ≠ b) (hz : z ≠ b) : Three w' x y z u0 u1 u2 u3 u4 v u :=
  ⟨gr_obj hg h.m hx, gr_obj hg h.n hy, gr_obj hg h.o hz, h.xy, h.xz, h.yz⟩
theorem three_new (w : World) (s : ByteArray) (at_ : Int) (ad : Option Addr) (n cap : Nat) : Three ((((w.alloc (.cells #[.int .i64 0, .string ⟨#[]⟩, .slice none 0 0, .bool false, .string ⟨#[]⟩] 29)).alloc (.cells #[.int .i64 0] 3)).alloc (.cells #[.bool false] 4)).alloc (.cells #[.string s, .int .i64 at_, .slice ad n cap] 52)) w.heap.size (w.heap.size + 1) (w.heap.size + 1 + 1) (.int .i64 0) (.string ⟨#[]⟩) (.slice none 0 0) (.bool false) (.string ⟨#[]⟩) (.int .i64 0) (.bool false) := by
  have h1 := heap_alloc_new (w.alloc (.cells #[.int .i64 0, .string ⟨#[]⟩, .slice none 0 0, .bool false, .string ⟨#[]⟩] 29)) (.cells #[.int .i64 0] 3)
  have h2 := heap_alloc_new ((w.alloc (.cells #[.int .i64 0, .string ⟨#[]⟩, .slice none 0 0, .bool false, .string ⟨#[]⟩] 29)).alloc (.cells #[.int .i64 0] 3)) (.cells #[.bool false] 4)
  rw [World.size_alloc] at h1
  rw [World.size_alloc, World.size_alloc] at h2
  have e1 : ∀ (W : World) (o : Obj), (W.alloc o).heap.size = W.heap.size + 1 := fun W o => World.size_alloc _ _
  refine ⟨?_, ?_, ?_, by omega, by omega, by omega⟩
  · exact (Below.heap_alloc _ _ _ (by rw [e1, e1, e1]; omega)).trans ((Below.heap_alloc _ _ _ (by rw [e1, e1]; omega)).trans ((Below.heap_alloc _ _ _ (by rw [e1]; omega)).trans (heap_alloc_new w _)))
  · exact (Below.heap_alloc _ _ _ (by rw [e1, e1, e1]; omega)).trans ((Below.heap_alloc _ _ _ (by rw [e1, e1]; omega)).trans h1)
  · exact (Below.heap_alloc _ _ _ (by rw [e1, e1, e1]; omega)).trans h2
theorem rd_new (w : World) (s : ByteArray) (a : Nat) (ad : Option Addr) (n cap : Nat) : Rm ((((w.alloc (.cells #[.int .i64 0, .string ⟨#[]⟩, .slice none 0 0, .bool false, .string ⟨#[]⟩] 29)).alloc (.cells #[.int .i64 0] 3)).alloc (.cells #[.bool false] 4)).alloc (.cells #[.string s, .int .i64 (a : Int), .slice ad n cap] 52)) (w.heap.size + 1 + 1 + 1) s a ad n cap := by
  have h := heap_alloc_new (((w.alloc (.cells #[.int .i64 0, .string ⟨#[]⟩, .slice none 0 0, .bool false, .string ⟨#[]⟩] 29)).alloc (.cells #[.int .i64 0] 3)).alloc (.cells #[.bool false] 4)) (.cells #[.string s, .int .i64 (a : Int), .slice ad n cap] 52)
  rw [World.size_alloc, World.size_alloc, World.size_alloc] at h
  exact ⟨h⟩
theorem below_new (w : World) (s : ByteArray) (at_ : Int) (ad : Option Addr) (n cap : Nat) : Below w.heap.size w ((((w.alloc (.cells #[.int .i64 0, .string ⟨#[]⟩, .slice none 0 0, .bool false, .string ⟨#[]⟩] 29)).alloc (.cells #[.int .i64 0] 3)).alloc (.cells #[.bool false] 4)).alloc (.cells #[.string s, .int .i64 at_, .slice ad n cap] 52)) :=
  ((((Below.refl _ _).alloc (Nat.le_refl _) _).alloc (by simp) _).alloc (by simp; omega) _).alloc (by simp; omega) _
/-- What is left where MarkAt has given up. -/
theorem gave_end {w W : World} {s : ByteArray} {at_ : Int} {L : List Pair} {x y z : Nat} (hN : markR s at_ L = none) (h : Below w.heap.size w W) (hx : w.heap.size ≤ x) (hy : w.heap.size ≤ y) (hz : w.heap.size ≤ z) : ansOk (markR s at_ L) w (zero7 W x y z) (.returned (.tuple #[.agg #[.int .i64 0, .string ⟨#[]⟩, .slice none 0 0, .bool false, .string ⟨#[]⟩], .int .i64 0, .bool false])) ∧ Below w.heap.size w (zero7 W x y z) :=
  ⟨ans_bad hN, zero7_below h hx hy hz⟩
set_option maxRecDepth 100000 in
set_option maxHeartbeats 8000000 in
theorem impl_markAt (s : ByteArray) (at_ : Int) (ad : Option Addr) (L : List Pair) (cap : Nat) (w : World) (hs : s.size ≤ 1048576) (hT : refs.XTabs w) (hL : PairsAt w ad L) (hv : ∀ i, i < L.length → (at0 L i).2.size ≤ 1048576) : Calls Tryz.prog 6 #[.string s, .int .i64 at_, .slice ad L.length cap] w fun e w' => ansOk (markR s at_ L) w w' e ∧ Below w.heap.size w w' := by
  have hmf : ∀ (fn : Fn) (first cap : Array Value) (w : World), (Instr.makeFunc fn first cap).run Tryz.prog w = .ok (.func fn first cap) w := fun _ _ _ _ => rfl
  have HT3 : Hid (Three ((((w.alloc (.cells #[.int .i64 0, .string ⟨#[]⟩, .slice none 0 0, .bool false, .string ⟨#[]⟩] 29)).alloc (.cells #[.int .i64 0] 3)).alloc (.cells #[.bool false] 4)).alloc (.cells #[.string s, .int .i64 at_, .slice ad L.length cap] 52)) w.heap.size (w.heap.size + 1) (w.heap.size + 1 + 1) (.int .i64 0) (.string ⟨#[]⟩) (.slice none 0 0) (.bool false) (.string ⟨#[]⟩) (.int .i64 0) (.bool false)) := three_new w s at_ ad L.length cap
  have HB4 : Hid (Below w.heap.size w ((((w.alloc (.cells #[.int .i64 0, .string ⟨#[]⟩, .slice none 0 0, .bool false, .string ⟨#[]⟩] 29)).alloc (.cells #[.int .i64 0] 3)).alloc (.cells #[.bool false] 4)).alloc (.cells #[.string s, .int .i64 at_, .slice ad L.length cap] 52))) := below_new w s at_ ad L.length cap
  have HT : Hid (refs.XTabs w) := hT
  have HL : Hid (PairsAt w ad L) := hL
  have HV : Hid _ := hv
  clear hT hL hv
  by_cases h0 : 0 ≤ at_
  · by_cases h1 : at_ < s.size
    · obtain ⟨a, rfl⟩ : ∃ a : Nat, at_ = a := ⟨at_.toNat, by omega⟩
      have ha : a < s.size := by omega
      have H1 : Hid (∀ W, refs.XTabs W → PairsAt W ad L → _) := fun W h1 h2 => refs.impl_ents ad L cap W h1.tab h2
      cases he : refs.entsB L
      · rw [he] at H1
        have HN : Hid (markR s (a : Int) L = none) := markR_out (fun h => by rw [he] at h; exact absurd h.2.2 (by decide))
        clear he
        go_enter_defers Tryz.func6, Tryz.ntmps6
        go_wp2_with fail
        refine Calls.mono (H1.out _ (HT.out.below HB4.out) (HL.out.below (Nat.le_refl _) HB4.out)) ?_
        rintro e w5 ⟨rfl, hb⟩
        have HB5 : Hid (Below w.heap.size w w5) := HB4.out.trans (hb.mono HB4.out.size)
        have HT5 : Hid _ := HT3.out.grown (gr_below (b := w.heap.size + 3) hb) (by omega) (by omega) (by omega)
        clear hb
        go_wp2_with (go_at_call 20; refine Calls.mono (must_no _ _) ?_; rintro e w_ ⟨rfl, hw_⟩; have hw3 := hw_.symm; clear hw_; subst hw3)
        refine leaves_cons (f := 19) (args := #[.pointer (some ⟨w.heap.size, 0, none⟩), .pointer (some ⟨w.heap.size + 1, 0, none⟩), .pointer (some ⟨w.heap.size + 1 + 1, 0, none⟩)]) (by simp) (by simp [go_sem]) ?_
        refine (catch_pan w.heap.size (w.heap.size + 1) (w.heap.size + 1 + 1) _ _ _ _ _ _ _ 9 _ [] _ HT5.out).mono ?_
        rintro e u' w'' ⟨rfl, rfl, rfl⟩
        obtain ⟨⟨o0, o1, o2, o3, o4⟩, q0, q1, q2, q3, q4⟩ := box5 HT5.out.zero.m
        obtain ⟨n0, n1⟩ := one_box HT5.out.zero.n
        obtain ⟨k0, k1⟩ := one_box HT5.out.zero.o
        simp [Leaves, settle, results, Tryz.results6, go_sem, o0, o1, o2, o3, o4, n0, k0]
        exact gave_end HN.out HB5.out (Nat.le_refl _) (by omega) (by omega)
      · rw [he] at H1
        have HM : Hid (markR s (a : Int) L = markT s a L) := markR_in ha he
        have HRm : Hid (Rm ((((w.alloc (.cells #[.int .i64 0, .string ⟨#[]⟩, .slice none 0 0, .bool false, .string ⟨#[]⟩] 29)).alloc (.cells #[.int .i64 0] 3)).alloc (.cells #[.bool false] 4)).alloc (.cells #[.string s, .int .i64 (a : Int), .slice ad L.length cap] 52)) (w.heap.size + 1 + 1 + 1) s a ad L.length cap) := rd_new w s a ad L.length cap
        clear he
        have HE4 : Hid (Env w ((((w.alloc (.cells #[.int .i64 0, .string ⟨#[]⟩, .slice none 0 0, .bool false, .string ⟨#[]⟩] 29)).alloc (.cells #[.int .i64 0] 3)).alloc (.cells #[.bool false] 4)).alloc (.cells #[.string s, .int .i64 (a : Int), .slice ad L.length cap] 52)) (w.heap.size + 1 + 1 + 1) ad L) := ⟨HT.out, HL.out, by omega, HB4.out⟩
        have H2 : Hid (∀ W, Env w W (w.heap.size + 1 + 1 + 1) ad L → Rm W (w.heap.size + 1 + 1 + 1) s a ad L.length cap → _) := fun W h1 h2 => rd_mark s a (w.heap.size + 1 + 1 + 1) w ad L cap W hs HV.out ha h1 h2
        go_enter_defers Tryz.func6, Tryz.ntmps6
        go_wp2_with fail
        refine Calls.mono (H1.out _ (HT.out.below HB4.out) (HL.out.below (Nat.le_refl _) HB4.out)) ?_
        rintro e w5 ⟨rfl, hb⟩
        have HB5 : Hid (Below w.heap.size w w5) := HB4.out.trans (hb.mono HB4.out.size)
        have HT5 : Hid _ := HT3.out.grown (gr_below (b := w.heap.size + 1 + 1 + 1) hb) (by omega) (by omega) (by omega)
        have HR5 : Hid _ := HRm.out.below hb
        have HE5 : Hid _ := HE4.out.below hb
        have hlt5 := HR5.out.lt
        clear hb
        go_wp2_with (first | (go_at_call 20; refine Calls.mono (must_yes _ _) ?_; rintro e w_ ⟨rfl, hw_⟩; have hw3 := hw_.symm; clear hw_; subst hw3) | fail)
        refine Calls.mono (H2.out _ HE5.out HR5.out) ?_
        rintro e w6 ⟨he, hg⟩
        have HB6 : Hid (Below w.heap.size w w6) := bel_grown HB5.out hg (by omega) (by omega)
        have HT6 : Hid _ := HT5.out.grown hg (by omega) (by omega) (by omega)
        clear hg
        rcases m_shape he with ⟨hr, he2⟩ | ⟨m, j, a', c', hr, he2⟩
        · have he3 : e = .panicked [{ v := .iface 9 (.string ⟨#[105, 116, 32, 100, 111, 101, 115, 32, 110, 111, 116, 32, 103, 111, 32, 111, 110, 32, 115, 111]⟩), recovered := false }] := he2
          subst he3
          have HN : Hid (markR s (a : Int) L = none) := HM.out.trans hr
          clear he he2 hr
          go_wp2
          refine leaves_cons (f := 19) (args := #[.pointer (some ⟨w.heap.size, 0, none⟩), .pointer (some ⟨w.heap.size + 1, 0, none⟩), .pointer (some ⟨w.heap.size + 1 + 1, 0, none⟩)]) (by simp) (by simp [go_sem]) ?_
          refine (catch_pan w.heap.size (w.heap.size + 1) (w.heap.size + 1 + 1) _ _ _ _ _ _ _ 9 _ [] _ HT6.out).mono ?_
          rintro e u' w'' ⟨rfl, rfl, rfl⟩
          obtain ⟨⟨o0, o1, o2, o3, o4⟩, q0, q1, q2, q3, q4⟩ := box5 HT6.out.zero.m
          obtain ⟨n0, n1⟩ := one_box HT6.out.zero.n
          obtain ⟨k0, k1⟩ := one_box HT6.out.zero.o
          simp [Leaves, settle, results, Tryz.results6, go_sem, o0, o1, o2, o3, o4, n0, k0]
          exact gave_end HN.out HB6.out (Nat.le_refl _) (by omega) (by omega)
        · rw [hr] at he
          have HF : Hid (markR s (a : Int) L = some (m, j)) := HM.out.trans hr
          obtain ⟨⟨a2, c2, he3, hown⟩, hrd⟩ := he
          subst he3
          unfold mkV at he2
          simp only [Ending.returned.injEq, Value.agg.injEq] at he2
          have HOWN : Hid _ := hown
          have HRD : Hid _ := hrd
          clear hr hown hrd he2
          unfold mkV
          obtain ⟨⟨o0, o1, o2, o3, o4⟩, q0, q1, q2, q3, q4⟩ := box5 HT6.out.m
          go_wp2_with fail
          have HT7 : Hid _ := HT6.out.set5 (.int .i64 m.kind) (.string m.name) (.slice a2 m.raws.length c2) (.bool m.empty) (.string m.text)
          have HR7 : Hid _ := rd_five (u0 := .int .i64 m.kind) (u1 := .string m.name) (u2 := .slice a2 m.raws.length c2) (u3 := .bool m.empty) (u4 := .string m.text) HRD.out (show w.heap.size ≠ w.heap.size + 1 + 1 + 1 by omega)
          have HO7 : Hid _ := outg w6 w.heap.size (.int .i64 m.kind) (.string m.name) (.slice a2 m.raws.length c2) (.bool m.empty) (.string m.text)
          obtain ⟨W7, hW7⟩ : ∃ W7, (((((w6.setCell ⟨w.heap.size, 0, none⟩ (.int .i64 m.kind)).setCell ⟨w.heap.size, 1, none⟩ (.string m.name)).setCell ⟨w.heap.size, 2, none⟩ (.slice a2 m.raws.length c2)).setCell ⟨w.heap.size, 3, none⟩ (.bool m.empty)).setCell ⟨w.heap.size, 4, none⟩ (.string m.text)) = W7 := ⟨_, rfl⟩
          rw [hW7] at HT7 HR7 HO7 ⊢
          clear hW7 o0 o1 o2 o3 o4 q0 q1 q2 q3 q4
          have HTd : Hid _ := HT7.out.grown (gr_below (b := w.heap.size + 1 + 1 + 1) (Below.refl W7.heap.size W7).drew) (by omega) (by omega) (by omega)
          have HRd : Hid _ := HR7.out.below (Below.refl W7.heap.size W7).drew
          have HOd : Hid _ := HO7.out.trans (Out.of_below (Below.refl W7.heap.size W7).drew)
          obtain ⟨⟨o0, o1, o2, o3, o4⟩, q0, q1, q2, q3, q4⟩ := box5 HT7.out.m
          obtain ⟨n0, n1⟩ := one_box HT7.out.n
          obtain ⟨k0, k1⟩ := one_box HT7.out.o
          obtain ⟨c0, c1, f0, f1⟩ := HR7.out.cells
          go_region
          go_wp2
          refine leaves_cons (f := 19) (args := #[.pointer (some ⟨w.heap.size, 0, none⟩), .pointer (some ⟨w.heap.size + 1, 0, none⟩), .pointer (some ⟨w.heap.size + 1 + 1, 0, none⟩)]) (by simp) (by simp [go_sem]) ?_
          refine (catch_idle ⟨w.heap.size, 0, none⟩ ⟨w.heap.size + 1, 0, none⟩ ⟨w.heap.size + 1 + 1, 0, none⟩ _).mono ?_
          rintro e u' w'' ⟨rfl, rfl, rfl⟩
          have HT8 := (((HT7.out.set5 (.int .i64 m.kind) (.string m.name) (.slice a2 m.raws.length c2) (.bool m.empty) (.string m.text)).setN (.int .i64 (j : Int))).setO (.bool true)).grown (gr_below (b := w.heap.size + 1 + 1 + 1) (Below.refl _ _).drew) (by omega) (by omega) (by omega)
          have HO8 := ((((HO7.out.mono (G := fun x => x = w.heap.size ∨ x = w.heap.size + 1 ∨ x = w.heap.size + 1 + 1) (fun x hx => .inl hx)).trans ((outg W7 w.heap.size (.int .i64 m.kind) (.string m.name) (.slice a2 m.raws.length c2) (.bool m.empty) (.string m.text)).mono (fun x hx => .inl hx))).set (F := fun x => x = w.heap.size ∨ x = w.heap.size + 1 ∨ x = w.heap.size + 1 + 1) (.inr (.inl rfl)) 0 (.int .i64 (j : Int))).set (F := fun x => x = w.heap.size ∨ x = w.heap.size + 1 ∨ x = w.heap.size + 1 + 1) (.inr (.inr rfl)) 0 (.bool true)).trans (Out.of_below (Below.refl _ _).drew)
          clear o0 o1 o2 o3 o4 q0 q1 q2 q3 q4 n0 n1 k0 k1 c0 c1 f0 f1
          obtain ⟨⟨o0, o1, o2, o3, o4⟩, -⟩ := box5 HT8.m
          obtain ⟨n0, -⟩ := one_box HT8.n
          obtain ⟨k0, -⟩ := one_box HT8.o
          obtain ⟨W9, hW9⟩ : ∃ W9, (((((((W7.setCell ⟨w.heap.size, 0, none⟩ (.int .i64 m.kind)).setCell ⟨w.heap.size, 1, none⟩ (.string m.name)).setCell ⟨w.heap.size, 2, none⟩ (.slice a2 m.raws.length c2)).setCell ⟨w.heap.size, 3, none⟩ (.bool m.empty)).setCell ⟨w.heap.size, 4, none⟩ (.string m.text)).setCell ⟨w.heap.size + 1, 0, none⟩ (.int .i64 (j : Int))).setCell ⟨w.heap.size + 1 + 1, 0, none⟩ (.bool true)).drew = W9 := ⟨_, rfl⟩
          rw [hW9] at HT8 HO8 o0 o1 o2 o3 o4 n0 k0 ⊢
          clear hW9
          simp [Leaves, settle, results, Tryz.results6, go_sem, o0, o1, o2, o3, o4, n0, k0]
          refine ⟨ans_good HF.out (trees.OwnP.sub (trees.OwnP.out (F := Rng w5 w6) HOWN.out HO8 (fun x hx hc => by have := hx.1; omega)) (fun x hx => ⟨by have := hx.1; omega, Nat.lt_of_lt_of_le hx.2 HO8.size⟩)), HO8.below HB6.out (fun x hx => by omega) HB6.out.size⟩
    · have HN : Hid (markR s at_ L = none) := markR_out (fun h => h1 h.2.1)
      go_enter_defers Tryz.func6, Tryz.ntmps6
      go_wp2_with (go_at_call 20; refine Calls.mono (must_no _ _) ?_; rintro e w_ ⟨rfl, hw_⟩; have hw3 := hw_.symm; clear hw_; subst hw3)
      refine leaves_cons (f := 19) (args := #[.pointer (some ⟨w.heap.size, 0, none⟩), .pointer (some ⟨w.heap.size + 1, 0, none⟩), .pointer (some ⟨w.heap.size + 1 + 1, 0, none⟩)]) (by simp) (by simp [go_sem]) ?_
      refine (catch_pan w.heap.size (w.heap.size + 1) (w.heap.size + 1 + 1) _ _ _ _ _ _ _ 9 _ [] _ HT3.out).mono ?_
      rintro e u' w'' ⟨rfl, rfl, rfl⟩
      obtain ⟨⟨o0, o1, o2, o3, o4⟩, q0, q1, q2, q3, q4⟩ := box5 HT3.out.zero.m
      obtain ⟨n0, n1⟩ := one_box HT3.out.zero.n
      obtain ⟨k0, k1⟩ := one_box HT3.out.zero.o
      simp [Leaves, settle, results, Tryz.results6, go_sem, o0, o1, o2, o3, o4, n0, k0]
      exact gave_end HN.out HB4.out (Nat.le_refl _) (by omega) (by omega)
  · have HN : Hid (markR s at_ L = none) := markR_out (fun h => h0 h.1)
    go_enter_defers Tryz.func6, Tryz.ntmps6
    go_wp2_with (go_at_call 20; refine Calls.mono (must_no _ _) ?_; rintro e w_ ⟨rfl, hw_⟩; have hw3 := hw_.symm; clear hw_; subst hw3)
    refine leaves_cons (f := 19) (args := #[.pointer (some ⟨w.heap.size, 0, none⟩), .pointer (some ⟨w.heap.size + 1, 0, none⟩), .pointer (some ⟨w.heap.size + 1 + 1, 0, none⟩)]) (by simp) (by simp [go_sem]) ?_
    refine (catch_pan w.heap.size (w.heap.size + 1) (w.heap.size + 1 + 1) _ _ _ _ _ _ _ 9 _ [] _ HT3.out).mono ?_
    rintro e u' w'' ⟨rfl, rfl, rfl⟩
    obtain ⟨⟨o0, o1, o2, o3, o4⟩, q0, q1, q2, q3, q4⟩ := box5 HT3.out.zero.m
    obtain ⟨n0, n1⟩ := one_box HT3.out.zero.n
    obtain ⟨k0, k1⟩ := one_box HT3.out.zero.o
    simp [Leaves, settle, results, Tryz.results6, go_sem, o0, o1, o2, o3, o4, n0, k0]
    exact gave_end HN.out HB4.out (Nat.le_refl _) (by omega) (by omega)
end Go.Proofs.YtekbpekfomblbaaGreatDoor.cuts
