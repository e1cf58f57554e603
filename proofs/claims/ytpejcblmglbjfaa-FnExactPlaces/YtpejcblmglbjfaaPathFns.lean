/-
  The laws' own helpers on slices of paths: whether two are the same, marks, and whether marks have held.
-/
import Derived.Test.YtpejcblmglbjfaaImplPlaces
import Derived.Test.YtpejcblmglbjfaaIntMarks
namespace Go.Proofs.Ytpejcblmglbjfaa.places
open Go.ChangeShapes Go.WideShapes Go.ChangeAt Go.RowKit
open trees (Tree Hdr vals noTree kid nsz nszs tsize ksize NodeIn NodesAt Bset Inc Apart Out Rng)
open ints (int0 okI IFit IntsAt MadeI)
set_option linter.unusedVariables false
def LFit (L : List (List Int)) : Prop := L.length ≤ 1048577 ∧ (∀ q, q ∈ L → PFit q) ∧ L.flatten.length ≤ 4398046511104
theorem fit_all {t : Tree} (hz : nsz t ≤ 1048576) : LFit (pathsT [] t) := by
  have h1 := paths_len [] t
  have h2 := flat_len [] t
  have h3 := nums_small (d := 0) (t := t) (by omega)
  refine ⟨by omega, fun q hq => paths_fit 0 [] t (by simpa using hz) (Nat.le_refl _) ⟨by simp, fun x hx => by cases hx⟩ q hq, ?_⟩
  rw [h2]
  exact h3
theorem LFit.path {L : List (List Int)} (h : LFit L) {i : Nat} (hi : i < L.length) : PFit (path0 L i) := by
  refine h.2.1 _ ?_
  unfold path0
  rw [List.getD_eq_getElem?_getD, List.getElem?_eq_getElem hi]
  exact List.getElem_mem hi
/-- A row of paths, all blocks in F. -/
structure ShowV (w : World) (g : Nat) (L : List (List Int)) (F : Bset) : Prop where
  inF : F g
  row : ∃ cur ty, w.heap[g]? = some (.cells cur ty (0, 0)) ∧ ∀ i, i < L.length → ∃ a c, cur[i]? = some (.slice a (path0 L i).length c) ∧ (0 < (path0 L i).length → ∃ b off cur2 t2, a = some ⟨b, off, none⟩ ∧ F b ∧ w.heap[b]? = some (.cells cur2 t2 (0, 0)) ∧ ∀ j, j < (path0 L i).length → cur2[off + j]? = some (.int .i64 (int0 (path0 L i) j)))
theorem ShowV.out {w w' : World} {g : Nat} {L : List (List Int)} {F G : Bset} (h : ShowV w g L F) (ho : Out G w w') (hd : Apart F G) : ShowV w' g L F := by
  obtain ⟨cur, ty, h1, h2⟩ := h.row
  refine ⟨h.inF, cur, ty, (ho.block g (pairs.lt_heap h1) (hd g h.inF)).trans h1, fun i hi => ?_⟩
  obtain ⟨a, c, e1, e2⟩ := h2 i hi
  refine ⟨a, c, e1, fun h0 => ?_⟩
  obtain ⟨b, off, cur2, t2, f1, f2, f3, f4⟩ := e2 h0
  exact ⟨b, off, cur2, t2, f1, f2, (ho.block b (pairs.lt_heap f3) (hd b f2)).trans f3, f4⟩
theorem ShowV.below {w w' : World} {g : Nat} {L : List (List Int)} {F : Bset} (h : ShowV w g L F) (hb : Below w.heap.size w w') : ShowV w' g L F := h.out (G := fun _ => False) (Out.of_below hb) (fun _ _ h => h)
/-- What one finds there. -/
theorem ShowV.find {w : World} {g : Nat} {L : List (List Int)} {F : Bset} (h : ShowV w g L F) (hf : LFit L) {i : Nat} (hi : i < L.length) : ∃ a c, w.cell? ⟨g, i, none⟩ = some (.slice a (path0 L i).length c) ∧ IntsAt w a (path0 L i) := by
  obtain ⟨cur, ty, h1, h2⟩ := h.row
  obtain ⟨a, c, e1, e2⟩ := h2 i hi
  have hp := (hf.path hi).at
  refine ⟨a, c, by simp [World.cell?, h1, e1], fun h0 => ?_, hp.1, hp.2⟩
  obtain ⟨b, off, cur2, t2, f1, f2, f3, f4⟩ := e2 h0
  exact ⟨b, off, f1, pairs.lt_heap f3, fun j hj => by simp [World.cell?, f3, f4 j hj]⟩
/-- The program's: the paths lie in one room. -/
structure LaidV (w : World) (g rb : Nat) (L : List (List Int)) (F : Bset) : Prop where
  inF : F g ∧ F rb ∧ g ≠ rb
  row : ∃ cur ty, w.heap[g]? = some (.cells cur ty (0, 0)) ∧ ∀ i, i < L.length → cur[i]? = some (pv rb (L.take i).flatten.length (path0 L i))
  room : ∃ cur ty, w.heap[rb]? = some (.cells cur ty (0, 0)) ∧ ∀ j, j < L.flatten.length → cur[j]? = some (.int .i64 (int0 L.flatten j))
theorem LaidV.out {w w' : World} {g rb : Nat} {L : List (List Int)} {F G : Bset} (h : LaidV w g rb L F) (ho : Out G w w') (hd : Apart F G) : LaidV w' g rb L F := by
  obtain ⟨cur, ty, h1, h2⟩ := h.row
  obtain ⟨cur2, ty2, h3, h4⟩ := h.room
  exact ⟨h.inF, ⟨cur, ty, (ho.block g (pairs.lt_heap h1) (hd g h.inF.1)).trans h1, h2⟩, cur2, ty2, (ho.block rb (pairs.lt_heap h3) (hd rb h.inF.2.1)).trans h3, h4⟩
theorem LaidV.below {w w' : World} {g rb : Nat} {L : List (List Int)} {F : Bset} (h : LaidV w g rb L F) (hb : Below w.heap.size w w') : LaidV w' g rb L F := h.out (G := fun _ => False) (Out.of_below hb) (fun _ _ h => h)
theorem flat_cut (L : List (List Int)) {i : Nat} (hi : i < L.length) : L.flatten = (L.take i).flatten ++ (path0 L i ++ (L.drop (i + 1)).flatten) := by
  have h : L = L.take i ++ (path0 L i :: L.drop (i + 1)) := by
    unfold path0
    rw [List.getD_eq_getElem?_getD, List.getElem?_eq_getElem hi]
    simp
  conv => lhs; rw [h]
  rw [List.flatten_append, List.flatten_cons]
theorem LaidV.shows {w : World} {g rb : Nat} {L : List (List Int)} {F : Bset} (h : LaidV w g rb L F) : ShowV w g L F := by
  obtain ⟨cur, ty, h1, h2⟩ := h.row
  obtain ⟨cur2, ty2, h3, h4⟩ := h.room
  refine ⟨h.inF.1, cur, ty, h1, fun i hi => ?_⟩
  obtain ⟨a, c, ha⟩ := pv_slice rb (L.take i).flatten.length (path0 L i)
  refine ⟨a, c, by rw [h2 i hi, ha], fun h0 => ?_⟩
  unfold pv at ha
  rw [if_neg (by omega)] at ha
  have h5 := flat_cut L hi
  refine ⟨rb, (L.take i).flatten.length, cur2, ty2, ?_, h.inF.2.1, h3, fun j hj => ?_⟩
  · injection ha with e1 _ _
    exact e1.symm
  · rw [h4 _ (by rw [h5, List.length_append, List.length_append]; omega), h5, int_mid hj]
/-- Marked: the room bears 1, 2, .. -/
structure MarkV (w : World) (g rb : Nat) (L : List (List Int)) (F : Bset) : Prop where
  inF : F g ∧ F rb ∧ g ≠ rb
  row : ∃ cur ty, w.heap[g]? = some (.cells cur ty (0, 0)) ∧ ∀ i, i < L.length → cur[i]? = some (pv rb (L.take i).flatten.length (path0 L i))
  room : ∃ cur ty, w.heap[rb]? = some (.cells cur ty (0, 0)) ∧ ∀ j, j < L.flatten.length → cur[j]? = some (.int .i64 ((1 + j : Nat) : Int))
theorem MarkV.out {w w' : World} {g rb : Nat} {L : List (List Int)} {F G : Bset} (h : MarkV w g rb L F) (ho : Out G w w') (hd : Apart F G) : MarkV w' g rb L F := by
  obtain ⟨cur, ty, h1, h2⟩ := h.row
  obtain ⟨cur2, ty2, h3, h4⟩ := h.room
  exact ⟨h.inF, ⟨cur, ty, (ho.block g (pairs.lt_heap h1) (hd g h.inF.1)).trans h1, h2⟩, cur2, ty2, (ho.block rb (pairs.lt_heap h3) (hd rb h.inF.2.1)).trans h3, h4⟩
theorem MarkV.below {w w' : World} {g rb : Nat} {L : List (List Int)} {F : Bset} (h : MarkV w g rb L F) (hb : Below w.heap.size w w') : MarkV w' g rb L F := h.out (G := fun _ => False) (Out.of_below hb) (fun _ _ h => h)
theorem laid_of {w w' : World} {g c rb : Nat} {L : List (List Int)} (h : Laid w w' g c rb L) : LaidV w' g rb L (Rng w w') := by
  obtain ⟨cr, h1, h2, h3⟩ := h.room.ex
  rcases h.row.2 with ⟨e, _⟩ | ⟨g', cap, cur, e, k0, k1, k2, k3, k4, k5⟩
  · cases e
  · cases e
    refine ⟨⟨⟨k0, pairs.lt_heap k1⟩, ⟨h.rl, pairs.lt_heap h1⟩, fun e => ?_⟩, ⟨cur, _, k1, fun i hi => ?_⟩, cr, _, h1, h3⟩
    · subst e
      rw [k1] at h1
      exact absurd (Obj.cells.inj (Option.some.inj h1)).2.1 (by decide)
    · have h6 := slv_at rb L 0 i hi
      rw [← k5, List.getElem?_take, if_pos (by omega)] at h6
      rw [Nat.zero_add] at h6
      simpa using h6
theorem show_of {w w' : World} {g c : Nat} {S : List Value} {L : List (List Int)} (hr : RowQ w' w.heap.size g L.length c S) (hp : PathsIn w' w.heap.size S L) : ShowV w' g L (Rng w w') := by
  obtain ⟨cur, e1, e2, e3⟩ := hr.cells
  refine ⟨⟨hr.lt.1, hr.lt.2⟩, cur, _, e1, fun i hi => ?_⟩
  obtain ⟨v, h1, b, c', cur2, rfl, h2, h3, h4, h5⟩ := hp.all i hi
  refine ⟨_, _, by rw [e3 i hi, h1], fun _ => ⟨b, 0, cur2, _, rfl, ⟨h2, pairs.lt_heap h3⟩, h3, fun j hj => ?_⟩⟩
  rw [Nat.zero_add]
  exact h5 j hj
theorem take_flat (L : List (List Int)) {i : Nat} (hi : i < L.length) : (L.take (i + 1)).flatten.length = (L.take i).flatten.length + (path0 L i).length := by
  rw [List.take_succ_eq_append_getElem hi, List.flatten_append, List.flatten_singleton, List.length_append]
  unfold path0
  rw [List.getD_eq_getElem?_getD, List.getElem?_eq_getElem hi]
  rfl
theorem take_flat_le (L : List (List Int)) (i : Nat) : (L.take i).flatten.length ≤ L.flatten.length := by
  conv => rhs; rw [← List.take_append_drop i L]
  rw [List.flatten_append, List.length_append]
  omega
set_option maxRecDepth 100000 in
set_option maxHeartbeats 4000000 in
theorem eq_rows (w : World) (g g' : Nat) (L : List (List Int)) (c c' : Nat) (F F' : Bset) (hf : Hid (LFit L)) (hL : Hid (ShowV w g L F)) (hL' : Hid (ShowV w g' L F')) :
    Calls Try.prog 43 #[.slice (some ⟨g, 0, none⟩) L.length c, .slice (some ⟨g', 0, none⟩) L.length c'] w fun e w' => e = .returned (.bool true) ∧ Below w.heap.size w w' := by
  have hlen := hf.out.1
  go_enter Try.func43, Try.ntmps43
  go_wp2
  go_loopw [5] (fun t wr => ∃ (k : Nat), k ≤ L.length ∧ t = .int .i64 k ∧ Hid (Below w.heap.size w wr)) (fun t _ => L.length - (intOf t).toNat)
  case atStart => exact ⟨0, Nat.zero_le _, rfl, Below.refl _ _⟩
  case round =>
    obtain ⟨k, hk, rfl, hbw⟩ := hrel
    by_cases hlt : k < L.length
    · obtain ⟨a, cp, hc, hi⟩ := (hL.out.below hbw.out).find hf.out hlt
      obtain ⟨a', cp', hc', hi'⟩ := (hL'.out.below hbw.out).find hf.out hlt
      have hE := fun W (h : Below wr.heap.size wr W) => ints.eq_ints W a a' (path0 L k) cp cp' (hi.below (Nat.le_refl _) h) (hi'.below (Nat.le_refl _) h)
      have hg1 := World.block_lt_of_cell? wr _ hc
      have hg2 := World.block_lt_of_cell? wr _ hc'
      have hl : ∀ W, Below wr.heap.size wr W → W.cell? ⟨g, k, none⟩ = some (.slice a (path0 L k).length cp) := fun W h => (h.cell (p := ⟨g, k, none⟩) hg1).trans hc
      have hl' : ∀ W, Below wr.heap.size wr W → W.cell? ⟨g', k, none⟩ = some (.slice a' (path0 L k).length cp') := fun W h => (h.cell (p := ⟨g', k, none⟩) hg2).trans hc'
      clear hc hc' hi hi' hg1 hg2
      generalize path0 L k = x at hl hl' hE
      go_wp2_with fail
      refine quiets.wp_region_below (by kernel_rfl) (by kernel_rfl) ?_
      repeat (go_big_quiet_step ((first | (intro hq; rfl) | (intro hq; simp [go_sem, hl _ hq]; rfl) | (intro hq; simp [go_sem, hl' _ hq]; rfl) | (intro hq; exact quiets.below_call (hE _ hq) hq))))
      refine wpQuiet_nil ?_
      intro w6 hb6
      have HB6 : Hid _ := hbw.out.trans (hb6.mono hbw.out.size)
      clear hb6 hl hl' hE
      go_wp2
      go_roundw
      case rel => exact ⟨k + 1, by omega, by go_num, HB6.out⟩
      case measure => simp [intOf]; omega
    · go_wp2
      go_ret
      exact ⟨rfl, hbw.out⟩
theorem marked_more {cur cu cu' : Array Value} {o n k : Nat} (h : ints.MarkedI cur cu 0 o k) (h' : ints.MarkedI cu cu' o n (k + o)) : ints.MarkedI cur cu' 0 (o + n) k := by
  refine ⟨h'.size.trans h.size, fun j hj => ?_, fun j hj => ?_⟩
  · rw [Nat.zero_add]
    by_cases e : j < o
    · rw [h'.rest j (.inl e)]
      have := h.done j e
      rwa [Nat.zero_add] at this
    · have := h'.done (j - o) (by omega)
      rw [show o + (j - o) = j by omega, show k + o + (j - o) = k + j by omega] at this
      exact this
  · rw [h'.rest j (by omega)]
    exact h.rest j (by omega)
set_option maxRecDepth 100000 in
set_option maxHeartbeats 4000000 in
theorem mark_rows (w : World) (g rb : Nat) (L : List (List Int)) (c q : Nat) (F : Bset) (hf : Hid (LFit L)) (hq : 1 + L.flatten.length = q) (hL : Hid (LaidV w g rb L F)) :
    Calls Try.prog 44 #[.slice (some ⟨g, 0, none⟩) L.length c, .int .i64 1] w fun e w' => (e = .returned (.int .i64 (q : Int)) ∧ MarkV w' g rb L F) ∧ Out F w w' := by
  have hlen := hf.out.1
  have HT : Hid (L.flatten.length ≤ 4398046511104) := hf.out.2.2
  obtain ⟨cur, ty, hb1, hb2⟩ := hL.out.row
  obtain ⟨cr, ty2, hr1, hr2⟩ := hL.out.room
  have HSZ : Hid (L.flatten.length ≤ cr.size) := by
    show _ ≤ _
    by_cases h0 : L.flatten.length = 0
    · omega
    · have := (Array.getElem?_eq_some_iff.1 (hr2 (L.flatten.length - 1) (by omega))).1
      omega
  have HG : Hid (w.heap[g]? = some (.cells cur ty (0, 0))) := hb1
  have HC : Hid (∀ i, i < L.length → cur[i]? = some (pv rb (L.take i).flatten.length (path0 L i))) := hb2
  have HR : Hid (w.heap[rb]? = some (.cells cr ty2 (0, 0))) := hr1
  have HNE : Hid (g ≠ rb) := hL.out.inF.2.2
  have HM0 : Hid (ints.MarkedI cr cr 0 0 1) := ints.MarkedI.nil cr 0 1
  have HG0 : Hid (w.grownBy w (some rb)) := pairs.grown_refl w rb
  clear hb1 hb2 hr1 hr2
  go_enter Try.func44, Try.ntmps44
  go_wp2
  go_loopw [1, 5] (fun z t wr => ∃ (i o : Nat) (cu : Array Value), i ≤ L.length ∧ o ≤ 4398046511104 ∧ t = .int .i64 i ∧ z = .int .i64 ((1 + o : Nat) : Int) ∧ Hid ((L.take i).flatten.length = o) ∧ Hid (wr.heap[rb]? = some (.cells cu ty2 (0, 0))) ∧ Hid (ints.MarkedI cr cu 0 o 1) ∧ Hid (w.grownBy wr (some rb))) (fun _ t _ => L.length - (intOf t).toNat)
  case atStart => exact ⟨0, 0, cr, Nat.zero_le _, Nat.zero_le _, rfl, rfl, by show _ = _; rfl, HR, HM0, HG0⟩
  case round =>
    obtain ⟨i, o, cu, hi, ho, rfl, rfl, hO, hcu, hm, hgr⟩ := hrel
    by_cases hlt : i < L.length
    · have hg : wr.heap[g]? = some (.cells cur ty (0, 0)) := (hgr.out.block g (pairs.lt_heap HG.out) (fun e => HNE.out (by cases e; rfl))).trans HG.out
      obtain ⟨p, hp⟩ : ∃ p, path0 L i = p := ⟨_, rfl⟩
      obtain ⟨a, cp, hpv⟩ := pv_slice rb o p
      have hcell : wr.cell? ⟨g, i, none⟩ = some (.slice a p.length cp) := by
        have h1 := HC.out i hlt
        rw [hO.out, hp, hpv] at h1
        simp [World.cell?, hg, h1]
      have htf := take_flat L hlt
      have hle := take_flat_le L (i + 1)
      rw [hO.out, hp] at htf
      have hpl : p.length ≤ 1048576 := by rw [← hp]; exact (hf.out.path hlt).1
      have HO : Hid ((L.take (i + 1)).flatten.length = o + p.length) := htf
      have hop : o + p.length ≤ 4398046511104 := by have := HT.out; omega
      have hos : o + p.length ≤ cr.size := by have := HSZ.out; omega
      have HCALL : Hid (Calls Try.prog 36 #[.slice a p.length cp, .int .i64 ((1 + o : Nat) : Int)] wr fun e w' => e = .returned (.int .i64 ((1 + (o + p.length) : Nat) : Int)) ∧ (∃ cu', w'.heap[rb]? = some (.cells cu' ty2 (0, 0)) ∧ ints.MarkedI cr cu' 0 (o + p.length) 1) ∧ wr.grownBy w' (some rb)) := by
        unfold pv at hpv
        by_cases h0 : p.length = 0
        · rw [if_pos h0] at hpv
          injection hpv with e1 e2 e3
          have := ints.mark_emp a cp (1 + o) wr
          rw [h0]
          refine this.mono fun e w' ⟨he, hw⟩ => ?_
          subst hw
          exact ⟨by rw [he]; rfl, ⟨cu, hcu.out, hm.out⟩, pairs.grown_refl _ _⟩
        · rw [if_neg h0] at hpv
          injection hpv with e1 e2 e3
          subst e1
          have := ints.mark_row wr rb o p.length cp (1 + o) cu ty2 (by omega) (by omega) hcu (by have := hm.out.size; omega)
          refine this.mono fun e w' ⟨he, ⟨cu', h1, h2⟩, h3⟩ => ?_
          exact ⟨by rw [he, Nat.add_assoc], ⟨cu', h1, marked_more hm.out h2⟩, h3⟩
      clear hg hpv htf hle hp hos
      go_wp2_with fail
      refine Calls.mono HCALL.out ?_
      rintro e w5 ⟨rfl, ⟨cu', h1, h2⟩, h3⟩
      have HH1 : Hid _ := h1
      have HH2 : Hid _ := h2
      have HH3 : Hid _ := pairs.grown_trans hgr.out h3
      clear h1 h2 h3 HCALL
      go_wp2
      go_roundw
      case rel => exact ⟨i + 1, o + p.length, cu', by omega, hop, by go_num, rfl, HO.out, HH1.out, HH2.out, HH3.out⟩
      case measure => simp [intOf]; omega
    · obtain rfl : i = L.length := by omega
      have HOT : Hid (L.flatten.length = o) := by have := hO.out; rwa [List.take_length] at this
      go_wp2
      go_ret
      refine ⟨⟨by rw [← hq, HOT.out]; rfl, hL.out.inF, ⟨cur, ty, (hgr.out.block g (pairs.lt_heap HG.out) (fun e => HNE.out (by cases e; rfl))).trans HG.out, HC.out⟩, cu, ty2, hcu.out, fun j hj => ?_⟩, Out.grown hgr.out hL.out.inF.2.1⟩
      have := hm.out.done j (by have := HOT.out; omega)
      rwa [Nat.zero_add] at this
set_option maxRecDepth 100000 in
set_option maxHeartbeats 4000000 in
theorem held_rows (w : World) (g rb : Nat) (L : List (List Int)) (c q : Nat) (F : Bset) (hf : Hid (LFit L)) (hq : 1 + L.flatten.length = q) (hL : Hid (MarkV w g rb L F)) :
    Calls Try.prog 45 #[.slice (some ⟨g, 0, none⟩) L.length c, .int .i64 1] w fun e w' => e = .returned (.int .i64 (q : Int)) ∧ Below w.heap.size w w' := by
  have hlen := hf.out.1
  have HT : Hid (L.flatten.length ≤ 4398046511104) := hf.out.2.2
  go_enter Try.func45, Try.ntmps45
  go_wp2
  go_loopw [1, 5] (fun z t wr => ∃ (i o : Nat), i ≤ L.length ∧ o ≤ 4398046511104 ∧ t = .int .i64 i ∧ z = .int .i64 ((1 + o : Nat) : Int) ∧ Hid ((L.take i).flatten.length = o) ∧ Hid (Below w.heap.size w wr)) (fun _ t _ => L.length - (intOf t).toNat)
  case atStart => exact ⟨0, 0, Nat.zero_le _, Nat.zero_le _, rfl, rfl, by show _ = _; rfl, Below.refl _ _⟩
  case round =>
    obtain ⟨i, o, hi, ho, rfl, rfl, hO, hbw⟩ := hrel
    by_cases hlt : i < L.length
    · obtain ⟨cur, ty, hb1, hb2⟩ := (hL.out.below hbw.out).row
      obtain ⟨cr, ty2, hr1, hr2⟩ := (hL.out.below hbw.out).room
      obtain ⟨p, hp⟩ : ∃ p, path0 L i = p := ⟨_, rfl⟩
      obtain ⟨a, cp, hpv⟩ := pv_slice rb o p
      have hcell : wr.cell? ⟨g, i, none⟩ = some (.slice a p.length cp) := by
        have h1 := hb2 i hlt
        rw [hO.out, hp, hpv] at h1
        simp [World.cell?, hb1, h1]
      have htf := take_flat L hlt
      have hle := take_flat_le L (i + 1)
      rw [hO.out, hp] at htf
      have hpl : p.length ≤ 1048576 := by rw [← hp]; exact (hf.out.path hlt).1
      have HO : Hid ((L.take (i + 1)).flatten.length = o + p.length) := htf
      have hop : o + p.length ≤ 4398046511104 := by have := HT.out; omega
      have hneg : ¬ (1 + ((o : Int) + (p.length : Int)) < 0) := by omega
      have HCALL : Hid (Calls Try.prog 79 #[.slice a p.length cp, .int .i64 ((1 + o : Nat) : Int)] wr fun e w' => e = .returned (.int .i64 ((1 + (o + p.length) : Nat) : Int)) ∧ Below wr.heap.size wr w') := by
        unfold pv at hpv
        by_cases h0 : p.length = 0
        · rw [if_pos h0] at hpv
          injection hpv with e1 e2 e3
          have := ints.held_emp a cp (1 + o) wr
          rw [h0]
          refine this.mono fun e w' ⟨he, hw⟩ => ?_
          subst hw
          exact ⟨by rw [he]; rfl, Below.refl _ _⟩
        · rw [if_neg h0] at hpv
          injection hpv with e1 e2 e3
          subst e1
          have := ints.held_row wr rb o p.length cp (1 + o) (by omega) (by omega) (pairs.lt_heap hr1) (show ∀ j, j < p.length → _ from fun j hj => by
            have h2 := hr2 (o + j) (by omega)
            rw [← Nat.add_assoc] at h2
            simp [World.cell?, hr1, h2])
          refine this.mono fun e w' ⟨he, h3⟩ => ?_
          exact ⟨by rw [he, Nat.add_assoc], h3⟩
      clear hpv htf hle hp hb1 hb2 hr1 hr2
      go_wp2_with fail
      refine Calls.mono HCALL.out ?_
      rintro e w5 ⟨rfl, h3⟩
      have HH3 : Hid _ := hbw.out.trans (h3.mono hbw.out.size)
      clear h3 HCALL
      go_wp2
      go_roundw
      case rel => exact ⟨i + 1, o + p.length, by omega, hop, by go_num, rfl, HO.out, HH3.out⟩
      case measure => simp [intOf]; omega
    · obtain rfl : i = L.length := by omega
      have HOT : Hid (L.flatten.length = o) := by have := hO.out; rwa [List.take_length] at this
      go_wp2
      go_ret
      exact ⟨by rw [← hq, HOT.out]; rfl, hbw.out⟩
end Go.Proofs.Ytpejcblmglbjfaa.places
