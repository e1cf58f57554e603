/-
  The program's MarkAt: the deferred closure's two contracts, and what MarkAt answers.
-/
import Derived.Test.YtehdpkigfjjbaaaGreatDoorImplMark
namespace Go.Proofs.YtehdpkigfjjbaaaGreatDoor.cuts
open Go.ChangeShapes Go.WideShapes Go.ChangeAt Go.RowKit
open names (splitT nameE)
open marks (blanksE)
open pairs (Pair at0 PairsAt)
open trees (Rng Out Bset)
set_option linter.unusedVariables false
def zero7 (w : World) (x y z : Nat) : World :=
  (((((((w.setCell ⟨x, 0, none⟩ (.int .i64 0)).setCell ⟨x, 1, none⟩ (.string ⟨#[]⟩)).setCell ⟨x, 2, none⟩ (.slice none 0 0)).setCell ⟨x, 3, none⟩ (.bool false)).setCell ⟨x, 4, none⟩ (.string ⟨#[]⟩)).setCell ⟨y, 0, none⟩ (.int .i64 0)).setCell ⟨z, 0, none⟩ (.bool false))
/-- The three named answers' boxes. -/
structure Three (w : World) (x y z : Nat) (u0 u1 u2 u3 u4 v u : Value) : Prop where
  m : w.heap[x]? = some (.cells #[u0, u1, u2, u3, u4] 26 (0, 0))
  n : w.heap[y]? = some (.cells #[v] 3 (0, 0))
  o : w.heap[z]? = some (.cells #[u] 4 (0, 0))
  xy : x ≠ y
  xz : x ≠ z
  yz : y ≠ z
theorem one_box {w : World} {b : Nat} {t : TypeId} {c0 : Value} (h : w.heap[b]? = some (.cells #[c0] t (0, 0))) : w.cell? ⟨b, 0, none⟩ = some c0 ∧ w.frozen? ⟨b, 0, none⟩ = false := by
  simp [World.cell?, World.frozen?, h]
theorem Three.set5 {w : World} {x y z : Nat} {u0 u1 u2 u3 u4 v u : Value} (h : Three w x y z u0 u1 u2 u3 u4 v u) (c0 c1 c2 c3 c4 : Value) : Three (((((w.setCell ⟨x, 0, none⟩ c0).setCell ⟨x, 1, none⟩ c1).setCell ⟨x, 2, none⟩ c2).setCell ⟨x, 3, none⟩ c3).setCell ⟨x, 4, none⟩ c4) x y z c0 c1 c2 c3 c4 v u := by
  have hn : ∀ (W : World) (i : Nat) (c : Value), (W.setCell ⟨x, i, none⟩ c).heap[y]? = W.heap[y]? := fun W i c => Below.heap_setCell W ⟨x, i, none⟩ c y (fun e => h.xy e.symm)
  have ho : ∀ (W : World) (i : Nat) (c : Value), (W.setCell ⟨x, i, none⟩ c).heap[z]? = W.heap[z]? := fun W i c => Below.heap_setCell W ⟨x, i, none⟩ c z (fun e => h.xz e.symm)
  refine ⟨?_, ?_, ?_, h.xy, h.xz, h.yz⟩
  · rw [pairs.block_set _ (pairs.block_set _ (pairs.block_set _ (pairs.block_set _ (pairs.block_set _ h.m))))]; rfl
  · rw [hn, hn, hn, hn, hn]; exact h.n
  · rw [ho, ho, ho, ho, ho]; exact h.o
theorem Three.setN {w : World} {x y z : Nat} {u0 u1 u2 u3 u4 v u : Value} (h : Three w x y z u0 u1 u2 u3 u4 v u) (c : Value) : Three (w.setCell ⟨y, 0, none⟩ c) x y z u0 u1 u2 u3 u4 c u := by
  refine ⟨?_, ?_, ?_, h.xy, h.xz, h.yz⟩
  · rw [Below.heap_setCell w ⟨y, 0, none⟩ c x h.xy]; exact h.m
  · rw [pairs.block_set _ h.n]; rfl
  · rw [Below.heap_setCell w ⟨y, 0, none⟩ c z (fun e => h.yz e.symm)]; exact h.o
theorem Three.setO {w : World} {x y z : Nat} {u0 u1 u2 u3 u4 v u : Value} (h : Three w x y z u0 u1 u2 u3 u4 v u) (c : Value) : Three (w.setCell ⟨z, 0, none⟩ c) x y z u0 u1 u2 u3 u4 v c := by
  refine ⟨?_, ?_, ?_, h.xy, h.xz, h.yz⟩
  · rw [Below.heap_setCell w ⟨z, 0, none⟩ c x h.xz]; exact h.m
  · rw [Below.heap_setCell w ⟨z, 0, none⟩ c y h.yz]; exact h.n
  · rw [pairs.block_set _ h.o]; rfl
set_option maxRecDepth 100000 in
set_option maxHeartbeats 4000000 in
theorem catch_pan (x y z : Nat) (u0 u1 u2 u3 u4 v u : Value) (t : TypeId) (pv : Value) (older : List PanicEntry) (w : World) (h : Three w x y z u0 u1 u2 u3 u4 v u) :
    CallsD Tryz.prog 18 #[.pointer (some ⟨x, 0, none⟩), .pointer (some ⟨y, 0, none⟩), .pointer (some ⟨z, 0, none⟩)] (.panicking ({ v := .iface t pv, recovered := false } :: older)) w fun e u' w' =>
      e = .returned (.tuple #[]) ∧ u' = .panicking ({ v := .iface t pv, recovered := true } :: older) ∧ w' = zero7 w x y z := by
  obtain ⟨⟨o0, o1, o2, o3, o4⟩, q0, q1, q2, q3, q4⟩ := box5 h.m
  obtain ⟨n0, n1⟩ := one_box (h.set5 (.int .i64 0) (.string ⟨#[]⟩) (.slice none 0 0) (.bool false) (.string ⟨#[]⟩)).n
  obtain ⟨k0, k1⟩ := one_box ((h.set5 (.int .i64 0) (.string ⟨#[]⟩) (.slice none 0 0) (.bool false) (.string ⟨#[]⟩)).setN (.int .i64 0)).o
  refine callsD_of_wpS Tryz.func18 rfl fun c₀ cs hu => ?_
  apply wpS_seq
  apply wpS_region
  simp [wpOpsS, go_sem, recoverD, hu, Tryz.ntmps18, Exit.thenS]
  refine wpS_cond (t := true) (by simp [Act.eval, Array.replicate]) ?_
  simp only [if_true]
  apply wpS_region
  simp [wpOpsS, go_sem, o0, o1, o2, o3, o4, q0, q1, q2, q3, q4, n0, n1, k0, k1, bodyPostS, results, Tryz.results18]
  rfl
theorem catch_idle (p q r : Addr) (w : World) :
    CallsD Tryz.prog 18 #[.pointer (some p), .pointer (some q), .pointer (some r)] .returning w fun e u' w' => e = .returned (.tuple #[]) ∧ u' = .returning ∧ w' = w := by
  refine callsD_of_wpS Tryz.func18 rfl fun c₀ cs hu => ?_
  apply wpS_seq
  apply wpS_region
  simp [wpOpsS, go_sem, recoverD, hu, Tryz.ntmps18, Exit.thenS]
  refine wpS_cond (t := false) (by simp [Act.eval, Array.replicate]) ?_
  simp only [Bool.false_eq_true, if_false]
  refine wpS_of_wp (wp_skip ?_)
  cases c₀
  simp_all [bodyPostS, results, Tryz.results18]
theorem bel_grown {B : Nat} {w W W' : World} {b : Nat} (h : Below B w W) (hg : W.grownBy W' (some b)) (hb : B ≤ b) (hB : B ≤ W.heap.size) : Below B w W' :=
  h.trans ⟨hg.os, hg.tape, hg.output, hg.size, fun k hk => hg.block k (Nat.lt_of_lt_of_le hk hB) (fun e => by cases e; omega)⟩
theorem zero7_below {w W : World} {x y z : Nat} (h : Below w.heap.size w W) (hx : w.heap.size ≤ x) (hy : w.heap.size ≤ y) (hz : w.heap.size ≤ z) : Below w.heap.size w (zero7 W x y z) :=
  pairs.below_set (pairs.below_set (pairs.below_set (pairs.below_set (pairs.below_set (pairs.below_set (pairs.below_set h hx) hx) hx) hx) hx) hy) hz
theorem Three.zero {w : World} {x y z : Nat} {u0 u1 u2 u3 u4 v u : Value} (h : Three w x y z u0 u1 u2 u3 u4 v u) : Three (zero7 w x y z) x y z (.int .i64 0) (.string ⟨#[]⟩) (.slice none 0 0) (.bool false) (.string ⟨#[]⟩) (.int .i64 0) (.bool false) :=
  ((h.set5 (.int .i64 0) (.string ⟨#[]⟩) (.slice none 0 0) (.bool false) (.string ⟨#[]⟩)).setN (.int .i64 0)).setO (.bool false)
theorem Three.grown {w w' : World} {x y z b : Nat} {u0 u1 u2 u3 u4 v u : Value} (h : Three w x y z u0 u1 u2 u3 u4 v u) (hg : w.grownBy w' (some b)) (hx : x ≠ b) (hy : y ≠ b) (hz : z ≠ b) : Three w' x y z u0 u1 u2 u3 u4 v u :=
  ⟨gr_obj hg h.m hx, gr_obj hg h.n hy, gr_obj hg h.o hz, h.xy, h.xz, h.yz⟩
theorem three_new (w : World) (s : ByteArray) (at_ : Int) (ad : Option Addr) (n cap : Nat) : Three ((((w.alloc (.cells #[.int .i64 0, .string ⟨#[]⟩, .slice none 0 0, .bool false, .string ⟨#[]⟩] 26)).alloc (.cells #[.int .i64 0] 3)).alloc (.cells #[.bool false] 4)).alloc (.cells #[.string s, .int .i64 at_, .slice ad n cap] 49)) w.heap.size (w.heap.size + 1) (w.heap.size + 1 + 1) (.int .i64 0) (.string ⟨#[]⟩) (.slice none 0 0) (.bool false) (.string ⟨#[]⟩) (.int .i64 0) (.bool false) := by
  have h1 := heap_alloc_new (w.alloc (.cells #[.int .i64 0, .string ⟨#[]⟩, .slice none 0 0, .bool false, .string ⟨#[]⟩] 26)) (.cells #[.int .i64 0] 3)
  have h2 := heap_alloc_new ((w.alloc (.cells #[.int .i64 0, .string ⟨#[]⟩, .slice none 0 0, .bool false, .string ⟨#[]⟩] 26)).alloc (.cells #[.int .i64 0] 3)) (.cells #[.bool false] 4)
  rw [World.size_alloc] at h1
  rw [World.size_alloc, World.size_alloc] at h2
  have e1 : ∀ (W : World) (o : Obj), (W.alloc o).heap.size = W.heap.size + 1 := fun W o => World.size_alloc _ _
  refine ⟨?_, ?_, ?_, by omega, by omega, by omega⟩
  · exact (Below.heap_alloc _ _ _ (by rw [e1, e1, e1]; omega)).trans ((Below.heap_alloc _ _ _ (by rw [e1, e1]; omega)).trans ((Below.heap_alloc _ _ _ (by rw [e1]; omega)).trans (heap_alloc_new w _)))
  · exact (Below.heap_alloc _ _ _ (by rw [e1, e1, e1]; omega)).trans ((Below.heap_alloc _ _ _ (by rw [e1, e1]; omega)).trans h1)
  · exact (Below.heap_alloc _ _ _ (by rw [e1, e1, e1]; omega)).trans h2
theorem rd_new (w : World) (s : ByteArray) (a : Nat) (ad : Option Addr) (n cap : Nat) : Rm ((((w.alloc (.cells #[.int .i64 0, .string ⟨#[]⟩, .slice none 0 0, .bool false, .string ⟨#[]⟩] 26)).alloc (.cells #[.int .i64 0] 3)).alloc (.cells #[.bool false] 4)).alloc (.cells #[.string s, .int .i64 (a : Int), .slice ad n cap] 49)) (w.heap.size + 1 + 1 + 1) s a ad n cap := by
  have h := heap_alloc_new (((w.alloc (.cells #[.int .i64 0, .string ⟨#[]⟩, .slice none 0 0, .bool false, .string ⟨#[]⟩] 26)).alloc (.cells #[.int .i64 0] 3)).alloc (.cells #[.bool false] 4)) (.cells #[.string s, .int .i64 (a : Int), .slice ad n cap] 49)
  rw [World.size_alloc, World.size_alloc, World.size_alloc] at h
  exact ⟨h⟩
theorem below_new (w : World) (s : ByteArray) (at_ : Int) (ad : Option Addr) (n cap : Nat) : Below w.heap.size w ((((w.alloc (.cells #[.int .i64 0, .string ⟨#[]⟩, .slice none 0 0, .bool false, .string ⟨#[]⟩] 26)).alloc (.cells #[.int .i64 0] 3)).alloc (.cells #[.bool false] 4)).alloc (.cells #[.string s, .int .i64 at_, .slice ad n cap] 49)) :=
  ((((Below.refl _ _).alloc (Nat.le_refl _) _).alloc (by simp) _).alloc (by simp; omega) _).alloc (by simp; omega) _
/-- What is left where MarkAt has given up. -/
theorem gave_end {w W : World} {s : ByteArray} {at_ : Int} {L : List Pair} {x y z : Nat} (hN : markR s at_ L = none) (h : Below w.heap.size w W) (hx : w.heap.size ≤ x) (hy : w.heap.size ≤ y) (hz : w.heap.size ≤ z) : ansOk (markR s at_ L) w (zero7 W x y z) (.returned (.tuple #[.agg #[.int .i64 0, .string ⟨#[]⟩, .slice none 0 0, .bool false, .string ⟨#[]⟩], .int .i64 0, .bool false])) ∧ Below w.heap.size w (zero7 W x y z) :=
  ⟨ans_bad hN, zero7_below h hx hy hz⟩
set_option maxRecDepth 100000 in
set_option maxHeartbeats 8000000 in
theorem impl_markAt (s : ByteArray) (at_ : Int) (ad : Option Addr) (L : List Pair) (cap : Nat) (w : World) (hs : s.size ≤ 1048576) (hT : refs.XTabs w) (hL : PairsAt w ad L) (hv : ∀ i, i < L.length → (at0 L i).2.size ≤ 1048576) : Calls Tryz.prog 7 #[.string s, .int .i64 at_, .slice ad L.length cap] w fun e w' => ansOk (markR s at_ L) w w' e ∧ Below w.heap.size w w' := by
  have hmf : ∀ (fn : Fn) (first cap : Array Value) (w : World), (Instr.makeFunc fn first cap).run Tryz.prog w = .ok (.func fn first cap) w := fun _ _ _ _ => rfl
  have HT3 : Hid (Three ((((w.alloc (.cells #[.int .i64 0, .string ⟨#[]⟩, .slice none 0 0, .bool false, .string ⟨#[]⟩] 26)).alloc (.cells #[.int .i64 0] 3)).alloc (.cells #[.bool false] 4)).alloc (.cells #[.string s, .int .i64 at_, .slice ad L.length cap] 49)) w.heap.size (w.heap.size + 1) (w.heap.size + 1 + 1) (.int .i64 0) (.string ⟨#[]⟩) (.slice none 0 0) (.bool false) (.string ⟨#[]⟩) (.int .i64 0) (.bool false)) := three_new w s at_ ad L.length cap
  have HB4 : Hid (Below w.heap.size w ((((w.alloc (.cells #[.int .i64 0, .string ⟨#[]⟩, .slice none 0 0, .bool false, .string ⟨#[]⟩] 26)).alloc (.cells #[.int .i64 0] 3)).alloc (.cells #[.bool false] 4)).alloc (.cells #[.string s, .int .i64 at_, .slice ad L.length cap] 49))) := below_new w s at_ ad L.length cap
  have HT : Hid (refs.XTabs w) := hT
  have HL : Hid (PairsAt w ad L) := hL
  have HV : Hid _ := hv
  clear hT hL hv
  by_cases h0 : 0 ≤ at_
  · by_cases h1 : at_ < s.size
    · obtain ⟨a, rfl⟩ : ∃ a : Nat, at_ = a := ⟨at_.toNat, by omega⟩
      have ha : a < s.size := by omega
      have H1 : Hid (∀ W, refs.XTabs W → PairsAt W ad L → _) := fun W h1 h2 => refs.impl_ents ad L cap W h1.tab h2
      cases he : refs.entsB L
      · rw [he] at H1
        have HN : Hid (markR s (a : Int) L = none) := markR_out (fun h => by rw [he] at h; exact absurd h.2.2 (by decide))
        clear he
        go_enter_defers Tryz.func7, Tryz.ntmps7
        go_wp2_with fail
        refine Calls.mono (H1.out _ (HT.out.below HB4.out) (HL.out.below (Nat.le_refl _) HB4.out)) ?_
        rintro e w5 ⟨rfl, hb⟩
        have HB5 : Hid (Below w.heap.size w w5) := HB4.out.trans (hb.mono HB4.out.size)
        have HT5 : Hid _ := HT3.out.grown (gr_below (b := w.heap.size + 3) hb) (by omega) (by omega) (by omega)
        clear hb
        go_wp2_with (go_at_call 19; refine Calls.mono (must_no _ _) ?_; rintro e w_ ⟨rfl, hw_⟩; have hw3 := hw_.symm; clear hw_; subst hw3)
        refine leaves_cons (f := 18) (args := #[.pointer (some ⟨w.heap.size, 0, none⟩), .pointer (some ⟨w.heap.size + 1, 0, none⟩), .pointer (some ⟨w.heap.size + 1 + 1, 0, none⟩)]) (by simp) (by simp [go_sem]) ?_
        refine (catch_pan w.heap.size (w.heap.size + 1) (w.heap.size + 1 + 1) _ _ _ _ _ _ _ 9 _ [] _ HT5.out).mono ?_
        rintro e u' w'' ⟨rfl, rfl, rfl⟩
        obtain ⟨⟨o0, o1, o2, o3, o4⟩, q0, q1, q2, q3, q4⟩ := box5 HT5.out.zero.m
        obtain ⟨n0, n1⟩ := one_box HT5.out.zero.n
        obtain ⟨k0, k1⟩ := one_box HT5.out.zero.o
        simp [Leaves, settle, results, Tryz.results7, go_sem, o0, o1, o2, o3, o4, n0, k0]
        exact gave_end HN.out HB5.out (Nat.le_refl _) (by omega) (by omega)
      · rw [he] at H1
        have HM : Hid (markR s (a : Int) L = markT s a L) := markR_in ha he
        have HRm : Hid (Rm ((((w.alloc (.cells #[.int .i64 0, .string ⟨#[]⟩, .slice none 0 0, .bool false, .string ⟨#[]⟩] 26)).alloc (.cells #[.int .i64 0] 3)).alloc (.cells #[.bool false] 4)).alloc (.cells #[.string s, .int .i64 (a : Int), .slice ad L.length cap] 49)) (w.heap.size + 1 + 1 + 1) s a ad L.length cap) := rd_new w s a ad L.length cap
        clear he
        have HE4 : Hid (Env w ((((w.alloc (.cells #[.int .i64 0, .string ⟨#[]⟩, .slice none 0 0, .bool false, .string ⟨#[]⟩] 26)).alloc (.cells #[.int .i64 0] 3)).alloc (.cells #[.bool false] 4)).alloc (.cells #[.string s, .int .i64 (a : Int), .slice ad L.length cap] 49)) (w.heap.size + 1 + 1 + 1) ad L) := ⟨HT.out, HL.out, by omega, HB4.out⟩
        have H2 : Hid (∀ W, Env w W (w.heap.size + 1 + 1 + 1) ad L → Rm W (w.heap.size + 1 + 1 + 1) s a ad L.length cap → _) := fun W h1 h2 => rd_mark s a (w.heap.size + 1 + 1 + 1) w ad L cap W hs HV.out ha h1 h2
        go_enter_defers Tryz.func7, Tryz.ntmps7
        go_wp2_with fail
        refine Calls.mono (H1.out _ (HT.out.below HB4.out) (HL.out.below (Nat.le_refl _) HB4.out)) ?_
        rintro e w5 ⟨rfl, hb⟩
        have HB5 : Hid (Below w.heap.size w w5) := HB4.out.trans (hb.mono HB4.out.size)
        have HT5 : Hid _ := HT3.out.grown (gr_below (b := w.heap.size + 1 + 1 + 1) hb) (by omega) (by omega) (by omega)
        have HR5 : Hid _ := HRm.out.below hb
        have HE5 : Hid _ := HE4.out.below hb
        have hlt5 := HR5.out.lt
        clear hb
        go_wp2_with (first | (go_at_call 19; refine Calls.mono (must_yes _ _) ?_; rintro e w_ ⟨rfl, hw_⟩; have hw3 := hw_.symm; clear hw_; subst hw3) | fail)
        refine Calls.mono (H2.out _ HE5.out HR5.out) ?_
        rintro e w6 ⟨he, hg⟩
        have HB6 : Hid (Below w.heap.size w w6) := bel_grown HB5.out hg (by omega) (by omega)
        have HT6 : Hid _ := HT5.out.grown hg (by omega) (by omega) (by omega)
        clear hg
        rcases m_shape he with ⟨hr, he2⟩ | ⟨m, j, a', c', hr, he2⟩
        · have he3 : e = .panicked [{ v := .iface 9 (.string ⟨#[105, 116, 32, 100, 111, 101, 115, 32, 110, 111, 116, 32, 103, 111, 32, 111, 110, 32, 115, 111]⟩), recovered := false }] := he2
          subst he3
          have HN : Hid (markR s (a : Int) L = none) := HM.out.trans hr
          clear he he2 hr
          go_wp2
          refine leaves_cons (f := 18) (args := #[.pointer (some ⟨w.heap.size, 0, none⟩), .pointer (some ⟨w.heap.size + 1, 0, none⟩), .pointer (some ⟨w.heap.size + 1 + 1, 0, none⟩)]) (by simp) (by simp [go_sem]) ?_
          refine (catch_pan w.heap.size (w.heap.size + 1) (w.heap.size + 1 + 1) _ _ _ _ _ _ _ 9 _ [] _ HT6.out).mono ?_
          rintro e u' w'' ⟨rfl, rfl, rfl⟩
          obtain ⟨⟨o0, o1, o2, o3, o4⟩, q0, q1, q2, q3, q4⟩ := box5 HT6.out.zero.m
          obtain ⟨n0, n1⟩ := one_box HT6.out.zero.n
          obtain ⟨k0, k1⟩ := one_box HT6.out.zero.o
          simp [Leaves, settle, results, Tryz.results7, go_sem, o0, o1, o2, o3, o4, n0, k0]
          exact gave_end HN.out HB6.out (Nat.le_refl _) (by omega) (by omega)
        · rw [hr] at he
          have HF : Hid (markR s (a : Int) L = some (m, j)) := HM.out.trans hr
          obtain ⟨⟨a2, c2, he3, hown⟩, hrd⟩ := he
          subst he3
          unfold mkV at he2
          simp only [Ending.returned.injEq, Value.agg.injEq] at he2
          have HOWN : Hid _ := hown
          have HRD : Hid _ := hrd
          clear hr hown hrd he2
          unfold mkV
          obtain ⟨⟨o0, o1, o2, o3, o4⟩, q0, q1, q2, q3, q4⟩ := box5 HT6.out.m
          go_wp2_with fail
          have HT7 : Hid _ := HT6.out.set5 (.int .i64 m.kind) (.string m.name) (.slice a2 m.raws.length c2) (.bool m.empty) (.string m.text)
          have HR7 : Hid _ := rd_five (u0 := .int .i64 m.kind) (u1 := .string m.name) (u2 := .slice a2 m.raws.length c2) (u3 := .bool m.empty) (u4 := .string m.text) HRD.out (show w.heap.size ≠ w.heap.size + 1 + 1 + 1 by omega)
          have HO7 : Hid _ := outg w6 w.heap.size (.int .i64 m.kind) (.string m.name) (.slice a2 m.raws.length c2) (.bool m.empty) (.string m.text)
          obtain ⟨W7, hW7⟩ : ∃ W7, (((((w6.setCell ⟨w.heap.size, 0, none⟩ (.int .i64 m.kind)).setCell ⟨w.heap.size, 1, none⟩ (.string m.name)).setCell ⟨w.heap.size, 2, none⟩ (.slice a2 m.raws.length c2)).setCell ⟨w.heap.size, 3, none⟩ (.bool m.empty)).setCell ⟨w.heap.size, 4, none⟩ (.string m.text)) = W7 := ⟨_, rfl⟩
          rw [hW7] at HT7 HR7 HO7 ⊢
          clear hW7 o0 o1 o2 o3 o4 q0 q1 q2 q3 q4
          have HTd : Hid _ := HT7.out.grown (gr_below (b := w.heap.size + 1 + 1 + 1) (Below.refl W7.heap.size W7).drew) (by omega) (by omega) (by omega)
          have HRd : Hid _ := HR7.out.below (Below.refl W7.heap.size W7).drew
          have HOd : Hid _ := HO7.out.trans (Out.of_below (Below.refl W7.heap.size W7).drew)
          obtain ⟨⟨o0, o1, o2, o3, o4⟩, q0, q1, q2, q3, q4⟩ := box5 HT7.out.m
          obtain ⟨n0, n1⟩ := one_box HT7.out.n
          obtain ⟨k0, k1⟩ := one_box HT7.out.o
          obtain ⟨c0, c1, f0, f1⟩ := HR7.out.cells
          go_region
          go_wp2
          refine leaves_cons (f := 18) (args := #[.pointer (some ⟨w.heap.size, 0, none⟩), .pointer (some ⟨w.heap.size + 1, 0, none⟩), .pointer (some ⟨w.heap.size + 1 + 1, 0, none⟩)]) (by simp) (by simp [go_sem]) ?_
          refine (catch_idle ⟨w.heap.size, 0, none⟩ ⟨w.heap.size + 1, 0, none⟩ ⟨w.heap.size + 1 + 1, 0, none⟩ _).mono ?_
          rintro e u' w'' ⟨rfl, rfl, rfl⟩
          have HT8 := (((HT7.out.set5 (.int .i64 m.kind) (.string m.name) (.slice a2 m.raws.length c2) (.bool m.empty) (.string m.text)).setN (.int .i64 (j : Int))).setO (.bool true)).grown (gr_below (b := w.heap.size + 1 + 1 + 1) (Below.refl _ _).drew) (by omega) (by omega) (by omega)
          have HO8 := ((((HO7.out.mono (G := fun x => x = w.heap.size ∨ x = w.heap.size + 1 ∨ x = w.heap.size + 1 + 1) (fun x hx => .inl hx)).trans ((outg W7 w.heap.size (.int .i64 m.kind) (.string m.name) (.slice a2 m.raws.length c2) (.bool m.empty) (.string m.text)).mono (fun x hx => .inl hx))).set (F := fun x => x = w.heap.size ∨ x = w.heap.size + 1 ∨ x = w.heap.size + 1 + 1) (.inr (.inl rfl)) 0 (.int .i64 (j : Int))).set (F := fun x => x = w.heap.size ∨ x = w.heap.size + 1 ∨ x = w.heap.size + 1 + 1) (.inr (.inr rfl)) 0 (.bool true)).trans (Out.of_below (Below.refl _ _).drew)
          clear o0 o1 o2 o3 o4 q0 q1 q2 q3 q4 n0 n1 k0 k1 c0 c1 f0 f1
          obtain ⟨⟨o0, o1, o2, o3, o4⟩, -⟩ := box5 HT8.m
          obtain ⟨n0, -⟩ := one_box HT8.n
          obtain ⟨k0, -⟩ := one_box HT8.o
          obtain ⟨W9, hW9⟩ : ∃ W9, (((((((W7.setCell ⟨w.heap.size, 0, none⟩ (.int .i64 m.kind)).setCell ⟨w.heap.size, 1, none⟩ (.string m.name)).setCell ⟨w.heap.size, 2, none⟩ (.slice a2 m.raws.length c2)).setCell ⟨w.heap.size, 3, none⟩ (.bool m.empty)).setCell ⟨w.heap.size, 4, none⟩ (.string m.text)).setCell ⟨w.heap.size + 1, 0, none⟩ (.int .i64 (j : Int))).setCell ⟨w.heap.size + 1 + 1, 0, none⟩ (.bool true)).drew = W9 := ⟨_, rfl⟩
          rw [hW9] at HT8 HO8 o0 o1 o2 o3 o4 n0 k0 ⊢
          clear hW9
          simp [Leaves, settle, results, Tryz.results7, go_sem, o0, o1, o2, o3, o4, n0, k0]
          refine ⟨ans_good HF.out (trees.OwnP.sub (trees.OwnP.out (F := Rng w5 w6) HOWN.out HO8 (fun x hx hc => by have := hx.1; omega)) (fun x hx => ⟨by have := hx.1; omega, Nat.lt_of_lt_of_le hx.2 HO8.size⟩)), HO8.below HB6.out (fun x hx => by omega) HB6.out.size⟩
    · have HN : Hid (markR s at_ L = none) := markR_out (fun h => h1 h.2.1)
      go_enter_defers Tryz.func7, Tryz.ntmps7
      go_wp2_with (go_at_call 19; refine Calls.mono (must_no _ _) ?_; rintro e w_ ⟨rfl, hw_⟩; have hw3 := hw_.symm; clear hw_; subst hw3)
      refine leaves_cons (f := 18) (args := #[.pointer (some ⟨w.heap.size, 0, none⟩), .pointer (some ⟨w.heap.size + 1, 0, none⟩), .pointer (some ⟨w.heap.size + 1 + 1, 0, none⟩)]) (by simp) (by simp [go_sem]) ?_
      refine (catch_pan w.heap.size (w.heap.size + 1) (w.heap.size + 1 + 1) _ _ _ _ _ _ _ 9 _ [] _ HT3.out).mono ?_
      rintro e u' w'' ⟨rfl, rfl, rfl⟩
      obtain ⟨⟨o0, o1, o2, o3, o4⟩, q0, q1, q2, q3, q4⟩ := box5 HT3.out.zero.m
      obtain ⟨n0, n1⟩ := one_box HT3.out.zero.n
      obtain ⟨k0, k1⟩ := one_box HT3.out.zero.o
      simp [Leaves, settle, results, Tryz.results7, go_sem, o0, o1, o2, o3, o4, n0, k0]
      exact gave_end HN.out HB4.out (Nat.le_refl _) (by omega) (by omega)
  · have HN : Hid (markR s at_ L = none) := markR_out (fun h => h0 h.1)
    go_enter_defers Tryz.func7, Tryz.ntmps7
    go_wp2_with (go_at_call 19; refine Calls.mono (must_no _ _) ?_; rintro e w_ ⟨rfl, hw_⟩; have hw3 := hw_.symm; clear hw_; subst hw3)
    refine leaves_cons (f := 18) (args := #[.pointer (some ⟨w.heap.size, 0, none⟩), .pointer (some ⟨w.heap.size + 1, 0, none⟩), .pointer (some ⟨w.heap.size + 1 + 1, 0, none⟩)]) (by simp) (by simp [go_sem]) ?_
    refine (catch_pan w.heap.size (w.heap.size + 1) (w.heap.size + 1 + 1) _ _ _ _ _ _ _ 9 _ [] _ HT3.out).mono ?_
    rintro e u' w'' ⟨rfl, rfl, rfl⟩
    obtain ⟨⟨o0, o1, o2, o3, o4⟩, q0, q1, q2, q3, q4⟩ := box5 HT3.out.zero.m
    obtain ⟨n0, n1⟩ := one_box HT3.out.zero.n
    obtain ⟨k0, k1⟩ := one_box HT3.out.zero.o
    simp [Leaves, settle, results, Tryz.results7, go_sem, o0, o1, o2, o3, o4, n0, k0]
    exact gave_end HN.out HB4.out (Nat.le_refl _) (by omega) (by omega)
end Go.Proofs.YtehdpkigfjjbaaaGreatDoor.cuts
