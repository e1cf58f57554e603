/-
  The program's cursor: what it takes, and where it goes on.
-/
import Derived.Test.YtehdpkigfjjbaaaGreatDoorCutsI
import Derived.Test.YtehdpkigfjjbaaaGreatDoorSpecOpen
import Derived.Test.YtehdpkigfjjbaaaGreatDoorImplSplit
namespace Go.Proofs.YtehdpkigfjjbaaaGreatDoor.cuts
open Go.ChangeShapes Go.WideShapes Go.ChangeAt Go.RowKit
open names (splitT nameE)
open marks (blanksE)
open pairs (Pair at0 PairsAt)
open trees (Rng Out Bset)
set_option linter.unusedVariables false
/-- A reader's block: its text, its place, and what else it holds. -/
structure Rd (T : TypeId) (w : World) (b : Nat) (s : ByteArray) (k : Nat) (rest : Array Value) : Prop where
  blk : w.heap[b]? = some (.cells (#[.string s, .int .i64 (k : Int)] ++ rest) T (0, 0))
theorem Rd.cells {T : TypeId} {w : World} {b : Nat} {s : ByteArray} {k : Nat} {rest : Array Value} (h : Rd T w b s k rest) : w.cell? ⟨b, 0, none⟩ = some (.string s) ∧ w.cell? ⟨b, 1, none⟩ = some (.int .i64 (k : Int)) ∧ w.frozen? ⟨b, 0, none⟩ = false ∧ w.frozen? ⟨b, 1, none⟩ = false := by
  have hb := h.blk
  refine ⟨?_, ?_, ?_, ?_⟩
  · simp only [World.cell?, hb]
    exact Array.getElem?_append_left (by simp)
  · simp only [World.cell?, hb]
    exact Array.getElem?_append_left (by simp)
  · simp [World.frozen?, hb]
  · simp [World.frozen?, hb]
theorem Rd.lt {T : TypeId} {w : World} {b : Nat} {s : ByteArray} {k : Nat} {rest : Array Value} (h : Rd T w b s k rest) : b < w.heap.size := lt_heap h.blk
theorem Rd.below {T : TypeId} {w w' : World} {b : Nat} {s : ByteArray} {k : Nat} {rest : Array Value} (h : Rd T w b s k rest) (hb : Below w.heap.size w w') : Rd T w' b s k rest := ⟨(hb.block b h.lt).trans h.blk⟩
theorem Rd.set {T : TypeId} {w : World} {b : Nat} {s : ByteArray} {k : Nat} {rest : Array Value} (h : Rd T w b s k rest) (j : Nat) : Rd T (w.setCell ⟨b, 1, none⟩ (.int .i64 (j : Int))) b s j rest := by
  refine ⟨?_⟩
  rw [pairs.block_set _ h.blk]
  congr 2
  apply Array.ext
  · simp
  · intro i h1 h2
    by_cases e : i = 1
    · subst e; simp
    · rw [Array.getElem_setIfInBounds_ne (by simpa using h1) (Ne.symm e)]
      by_cases e0 : i = 0
      · subst e0; simp
      · rw [Array.getElem_append_right (by simp; omega), Array.getElem_append_right (by simp; omega)]
        rfl
theorem gr_below {w w' : World} {b : Nat} (h : Below w.heap.size w w') : w.grownBy w' (some b) := pairs.grown_below h
theorem gr_trans {w w1 w2 : World} {b : Nat} (h : w.grownBy w1 (some b)) (k : w1.grownBy w2 (some b)) : w.grownBy w2 (some b) := pairs.grown_trans h k
theorem gr_set {w w1 : World} {b i : Nat} {u : Value} (h : w.grownBy w1 (some b)) : w.grownBy (w1.setCell ⟨b, i, none⟩ u) (some b) := pairs.grown_trans h (pairs.grown_set _ _ _ _)
def isF (b : Bool) (k n : Nat) : Nat := bif b then k + n else k
set_option maxRecDepth 100000 in
set_option maxHeartbeats 2000000 in
theorem cur_stands (T : TypeId) (s t : ByteArray) (k b : Nat) (rest : Array Value) (w : World) (hs : s.size ≤ 1048576) (hk : k ≤ s.size) (ht : 0 < t.size) (hR : Rd T w b s k rest) : Calls Tryz.prog 63 #[.pointer (some ⟨b, 0, none⟩), .string t] w fun e w' => e = .returned (.bool (isAt s t k)) ∧ Below w.heap.size w w' := by
  have HH : Hid (∀ W, _) := fun W => prefix_at s t k W ht
  have hl : ∀ W, Below w.heap.size w W → W.cell? ⟨b, 0, none⟩ = some (.string s) ∧ W.cell? ⟨b, 1, none⟩ = some (.int .i64 (k : Int)) := fun W h => ⟨(hR.below h).cells.1, (hR.below h).cells.2.1⟩
  have hcut : ∀ W, (Instr.slice 9 (.string s) (some (.int .i64 (k : Int))) none none).run Tryz.prog W = .ok (.string (s.extract k s.size)) W := fun W => by
    have : (k : Int) ≤ s.size := by omega
    simp [go_sem, this]
  clear hR
  go_enter Tryz.func63, Tryz.ntmps63
  go_wp2_with fail
  refine quiets.wp_region_below (by kernel_rfl) (by kernel_rfl) ?_
  repeat (go_big_quiet_step ((first | (intro hq; rfl) | (intro hq; simp [go_sem, (hl _ hq).1]; rfl) | (intro hq; simp [go_sem, (hl _ hq).2]; rfl) | (intro hq; rw [hcut]; rfl) | (intro hq; exact quiets.below_same (HH.out _) hq))))
  refine wpQuiet_nil ?_
  intro w6 hb6
  go_wp2
  go_ret
  exact ⟨rfl, hb6⟩
set_option maxRecDepth 100000 in
set_option maxHeartbeats 2000000 in
theorem cur_take (T : TypeId) (s t : ByteArray) (k b : Nat) (rest : Array Value) (w : World) (hs : s.size ≤ 1048576) (hk : k ≤ s.size) (ht : 0 < t.size) (hR : Rd T w b s k rest) : Calls Tryz.prog 41 #[.pointer (some ⟨b, 0, none⟩), .string t] w fun e w' => e = .returned (.bool (isAt s t k)) ∧ Rd T w' b s (isF (isAt s t k) k t.size) rest ∧ w.grownBy w' (some b) := by
  have HH : Hid _ := cur_stands T s t k b rest w hs hk ht hR
  have HR : Hid (Rd T w b s k rest) := hR
  cases hb : isAt s t k
  · rw [hb] at HH
    clear hb hR
    go_enter Tryz.func41, Tryz.ntmps41
    go_wp2_with fail
    refine Calls.mono HH.out ?_
    rintro e w1 ⟨rfl, hb1⟩
    have HB1 : Hid _ := hb1
    clear hb1
    go_wp2
    go_ret
    exact ⟨rfl, HR.out.below HB1.out, gr_below HB1.out⟩
  · have hle := isAt_le hb
    rw [hb] at HH
    clear hb hR
    go_enter Tryz.func41, Tryz.ntmps41
    go_wp2_with fail
    refine Calls.mono HH.out ?_
    rintro e w1 ⟨rfl, hb1⟩
    have HB1 : Hid _ := hb1
    have HR1 : Hid _ := HR.out.below hb1
    obtain ⟨c0, c1, f0, f1⟩ := HR1.out.cells
    have HR2 : Hid (Rd T (w1.setCell ⟨b, 1, none⟩ (.int .i64 ((k : Int) + (t.size : Int)))) b s (k + t.size) rest) := HR1.out.set (k + t.size)
    clear hb1
    go_wp2
    go_ret
    exact ⟨rfl, HR2.out, gr_set (gr_below HB1.out)⟩
set_option maxRecDepth 100000 in
set_option maxHeartbeats 2000000 in
theorem cur_blanks (T : TypeId) (s : ByteArray) (k b : Nat) (rest : Array Value) (w : World) (hs : s.size ≤ 1048576) (hk : k ≤ s.size) (hR : Rd T w b s k rest) : Calls Tryz.prog 66 #[.pointer (some ⟨b, 0, none⟩)] w fun e w' => e = .returned (.bool (decide (k < blanksE s k))) ∧ Rd T w' b s (blanksE s k) rest ∧ w.grownBy w' (some b) := by
  have HH : Hid (∀ W, _) := fun W => marks.impl_blanks_in s k W (by unfold maxLen; omega) hk
  have HR : Hid (Rd T w b s k rest) := hR
  obtain ⟨j, hj⟩ : ∃ j, blanksE s k = j := ⟨_, rfl⟩
  rw [hj] at HH
  rw [hj]
  clear hj
  obtain ⟨c0, c1, f0, f1⟩ := hR.cells
  clear hR
  go_enter Tryz.func66, Tryz.ntmps66
  go_wp2_with fail
  refine Calls.mono (HH.out _) ?_
  rintro e w1 ⟨rfl, hb1⟩
  have HB1 : Hid _ := hb1
  have HR1 : Hid _ := HR.out.below hb1
  clear c0 c1 f0 f1
  obtain ⟨c0, c1, f0, f1⟩ := HR1.out.cells
  have HR2 : Hid (Rd T (w1.setCell ⟨b, 1, none⟩ (.int .i64 (j : Int))) b s j rest) := HR1.out.set j
  clear hb1
  go_wp2
  go_ret
  exact ⟨rfl, HR2.out, gr_set (gr_below HB1.out)⟩
theorem split_I (n x y : ByteArray) (ok : Bool) (h : splitT n = (x, y, ok)) (hs : n.size ≤ maxLen) (w : World) (hT : names.Tabs w) : Calls Tryz.prog 89 #[.string n] w fun e w' => e = .returned (.tuple #[.string x, .string y, .bool ok]) ∧ Below w.heap.size w w' := by
  have := names.impl_split n w hs hT
  rw [h] at this
  exact this
set_option maxRecDepth 100000 in
set_option maxHeartbeats 2000000 in
theorem cur_name (T : TypeId) (s : ByteArray) (k b : Nat) (rest : Array Value) (w : World) (hs : s.size ≤ 1048576) (hk : k ≤ s.size) (hT : names.Tabs w) (hR : Rd T w b s k rest) : Calls Tryz.prog 79 #[.pointer (some ⟨b, 0, none⟩)] w fun e w' =>
    (if (splitT (s.extract k (nameE s k))).2.2 = true then e = .returned (.tuple #[.string (s.extract k (nameE s k)), .bool true]) ∧ Rd T w' b s (nameE s k) rest else e = .returned (.tuple #[.string ⟨#[]⟩, .bool false]) ∧ Rd T w' b s k rest) ∧ w.grownBy w' (some b) := by
  have HT : Hid (names.Tabs w) := hT
  have HR : Hid (Rd T w b s k rest) := hR
  have hzn : (s.extract k (nameE s k)).size ≤ maxLen := names.ext_size (by unfold maxLen; omega)
  have h1 := fun W (h : names.Tabs W) => names.impl_name_in s k W (by unfold maxLen; omega) hk h
  unfold names.n2 at h1
  obtain ⟨j, hj⟩ : ∃ j, nameE s k = j := ⟨_, rfl⟩
  rw [hj] at h1 hzn
  rw [hj]
  obtain ⟨n, hn⟩ : ∃ n, s.extract k j = n := ⟨_, rfl⟩
  rw [hn] at h1 hzn
  rw [hn]
  obtain ⟨x, y, ok, hsp⟩ : ∃ x y ok, splitT n = (x, y, ok) := ⟨_, _, _, rfl⟩
  have H1 : Hid (∀ W, names.Tabs W → _) := h1
  have H2 : Hid (∀ W, names.Tabs W → _) := fun W h => split_I n x y ok hsp hzn W h
  rw [hsp]
  have hl : ∀ W, Below w.heap.size w W → W.cell? ⟨b, 0, none⟩ = some (.string s) ∧ W.cell? ⟨b, 1, none⟩ = some (.int .i64 (k : Int)) := fun W h => ⟨(hR.below h).cells.1, (hR.below h).cells.2.1⟩
  have HTB : Hid (∀ W, Below w.heap.size w W → names.Tabs W) := fun W h => hT.below h
  clear hR hj hn hsp h1 hzn hT
  go_enter Tryz.func79, Tryz.ntmps79
  go_wp2_with fail
  refine quiets.wp_region_below (by kernel_rfl) (by kernel_rfl) ?_
  repeat (go_big_quiet_step ((first | (intro hq; rfl) | (intro hq; simp [go_sem, (hl _ hq).1]; rfl) | (intro hq; simp [go_sem, (hl _ hq).2]; rfl) | (intro hq; exact quiets.below_call (H1.out _ (HTB.out _ hq)) hq))))
  refine wpQuiet_nil ?_
  intro w6 hb6
  have HB6 : Hid _ := hb6
  clear hb6 hl
  go_wp2_with fail
  refine Calls.mono (H2.out _ (HTB.out _ HB6.out)) ?_
  rintro e w7 ⟨rfl, hb7⟩
  have HB7 : Hid (Below w.heap.size w w7) := HB6.out.trans (hb7.mono HB6.out.size)
  have HR7 : Hid _ := HR.out.below HB7.out
  obtain ⟨c0, c1, f0, f1⟩ := HR7.out.cells
  clear hb7
  cases ok
  · go_wp2
    go_ret2
    exact ⟨⟨rfl, HR7.out⟩, gr_below HB7.out⟩
  · have HR8 : Hid (Rd T (w7.setCell ⟨b, 1, none⟩ (.int .i64 (j : Int))) b s j rest) := HR7.out.set j
    go_wp2
    go_ret2
    exact ⟨⟨rfl, HR8.out⟩, gr_set (gr_below HB7.out)⟩
/-- What takeUpTo answers. -/
def upOk (T : TypeId) (s t : ByteArray) (k b : Nat) (rest : Array Value) (w' : World) (e : Ending) : Prop :=
  match toI s t k with
  | none => e = .returned (.tuple #[.string ⟨#[]⟩, .bool false]) ∧ Rd T w' b s k rest
  | some j => e = .returned (.tuple #[.string (s.extract k j), .bool true]) ∧ Rd T w' b s (j + t.size) rest
theorem up_no {T : TypeId} {s t : ByteArray} {k b : Nat} {rest : Array Value} {w' : World} {e : Ending} (hj : toI s t k = none) (h : e = .returned (.tuple #[.string ⟨#[]⟩, .bool false]) ∧ Rd T w' b s k rest) : upOk T s t k b rest w' e := by unfold upOk; rw [hj]; exact h
theorem up_yes {T : TypeId} {s t : ByteArray} {k b j : Nat} {rest : Array Value} {w' : World} {e : Ending} (hj : toI s t k = some j) (h : e = .returned (.tuple #[.string (s.extract k j), .bool true]) ∧ Rd T w' b s (j + t.size) rest) : upOk T s t k b rest w' e := by unfold upOk; rw [hj]; exact h
set_option maxRecDepth 100000 in
set_option maxHeartbeats 2000000 in
theorem cur_up (T : TypeId) (s t : ByteArray) (k b : Nat) (rest : Array Value) (w : World) (hs : s.size ≤ 1048576) (hk : k ≤ s.size) (ht : 0 < t.size) (hm : frames.MaxAt w) (hR : Rd T w b s k rest) : Calls Tryz.prog 64 #[.pointer (some ⟨b, 0, none⟩), .string t] w fun e w' => upOk T s t k b rest w' e ∧ w.grownBy w' (some b) := by
  have HR : Hid (Rd T w b s k rest) := hR
  have hl : ∀ W, Below w.heap.size w W → W.cell? ⟨b, 0, none⟩ = some (.string s) ∧ W.cell? ⟨b, 1, none⟩ = some (.int .i64 (k : Int)) := fun W h => ⟨(hR.below h).cells.1, (hR.below h).cells.2.1⟩
  have hcut : ∀ W, (Instr.slice 9 (.string s) (some (.int .i64 (k : Int))) none none).run Tryz.prog W = .ok (.string (s.extract k s.size)) W := fun W => by
    have : (k : Int) ≤ s.size := by omega
    simp [go_sem, this]
  cases hj : toI s t k with
  | none =>
    have H1 : Hid (∀ W, Below w.heap.size w W → _) := fun W h => cut_none s t k W hs ht (hm.below h) hj
    have HJ : Hid _ := hj
    clear hR hm hj
    go_enter Tryz.func64, Tryz.ntmps64
    go_wp2_with fail
    refine quiets.wp_region_below (by kernel_rfl) (by kernel_rfl) ?_
    repeat (go_big_quiet_step ((first | (intro hq; rfl) | (intro hq; simp [go_sem, (hl _ hq).1]; rfl) | (intro hq; simp [go_sem, (hl _ hq).2]; rfl) | (intro hq; rw [hcut]; rfl) | (intro hq; exact quiets.below_call (H1.out _ hq) hq))))
    refine wpQuiet_nil ?_
    intro w6 hb6
    have HB6 : Hid _ := hb6
    clear hb6 hl hcut
    go_wp2
    go_ret2
    exact ⟨up_no HJ.out ⟨rfl, HR.out.below HB6.out⟩, gr_below HB6.out⟩
  | some j =>
    have H1 : Hid (∀ W, Below w.heap.size w W → _) := fun W h => cut_some s t k j W hs ht (hm.below h) hj
    have HJ : Hid _ := hj
    obtain ⟨hkj, hat, _⟩ := toI_some hj
    have hle := isAt_le hat
    obtain ⟨x, hx⟩ : ∃ x, s.extract k j = x := ⟨_, rfl⟩
    have HXS : Hid (x.size = j - k) := by show _ = _; rw [← hx, ByteArray.size_extract]; omega
    have hxz : x.size ≤ 1048576 := by have := HXS.out; omega
    have htz : t.size ≤ 1048576 := by omega
    have HLE : Hid (k ≤ j ∧ j + t.size ≤ s.size) := ⟨hkj, hle⟩
    clear hkj hle
    have HX : Hid (s.extract k j = x) := hx
    rw [hx] at H1
    obtain ⟨y, hy⟩ : ∃ y, s.extract (j + t.size) s.size = y := ⟨_, rfl⟩
    rw [hy] at H1
    clear hR hm hj hat hx hy
    go_enter Tryz.func64, Tryz.ntmps64
    go_wp2_with fail
    refine quiets.wp_region_below (by kernel_rfl) (by kernel_rfl) ?_
    repeat (go_big_quiet_step ((first | (intro hq; rfl) | (intro hq; simp [go_sem, (hl _ hq).1]; rfl) | (intro hq; simp [go_sem, (hl _ hq).2]; rfl) | (intro hq; rw [hcut]; rfl) | (intro hq; exact quiets.below_call (H1.out _ hq) hq))))
    refine wpQuiet_nil ?_
    intro w6 hb6
    have HB6 : Hid _ := hb6
    have HR6 : Hid _ := HR.out.below hb6
    obtain ⟨c0, c1, f0, f1⟩ := HR6.out.cells
    have HR7 : Hid (Rd T (w6.setCell ⟨b, 1, none⟩ (.int .i64 ((k : Int) + ((x.size : Int) + (t.size : Int))))) b s (j + t.size) rest) := by
      have := HR6.out.set (j + t.size)
      rw [show ((j + t.size : Nat) : Int) = (k : Int) + ((x.size : Int) + (t.size : Int)) by have := HXS.out; have := HLE.out; omega] at this
      exact this
    clear hb6 hl hcut
    go_wp2
    go_ret2
    exact ⟨up_yes HJ.out ⟨by rw [HX.out]; rfl, HR7.out⟩, gr_set (gr_below HB6.out)⟩
end Go.Proofs.YtehdpkigfjjbaaaGreatDoor.cuts
