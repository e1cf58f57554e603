/-
  The laws' own helpers on Attrs: how great, a copy, whether two are the same.
-/
import Derived.Test.YtpejcblmglbjfaaTreeP
import Derived.Test.YtpejcblmglbjfaaQuiet
import Derived.Lib.SmallJoins
namespace Go.Proofs.Ytpejcblmglbjfaa.trees
open Go.ChangeShapes Go.WideShapes Go.ChangeAt Go.RowKit
set_option linter.unusedVariables false
def Att.size (x : Att) : Nat := x.pre.size + x.loc.size + x.uri.size + x.val.size
def asizeTo (L : List Att) : Nat → Nat
  | 0 => 0
  | k + 1 => asizeTo L k + (att0 L k).size
theorem asizeTo_one (L : List Att) : ∀ {k i : Nat}, i < k → (att0 L i).size ≤ asizeTo L k
  | 0, i, h => by omega
  | k + 1, i, h => by
    rw [asizeTo]
    by_cases e : i = k
    · rw [e]; omega
    · have := asizeTo_one L (k := k) (i := i) (by omega)
      omega
def smallA (L : List Att) : Nat := L.length + asizeTo L L.length
set_option maxHeartbeats 1000000 in
theorem sz_att (x : Att) (left : Int) (w : World) (hx : x.fits) (h0 : 0 ≤ left) (h1 : left ≤ 1048576) :
    Calls Try.prog 93 #[.agg #[.string x.pre, .string x.loc, .string x.uri, .string x.val], .int .i64 left] w fun e w' => (∃ r : Int, e = .returned (.int .i64 r) ∧ (r < 0 ∨ r = left - x.size ∧ 0 ≤ r)) ∧ Below w.heap.size w w' := by
  obtain ⟨z1, z2, z3, z4⟩ := hx
  unfold maxLen at z1 z2 z3 z4
  by_cases g0 : left - x.pre.size < 0
  · go_enter Try.func93, Try.ntmps93
    go_wp2
    go_ret
    exact ⟨⟨-1, rfl, .inl (by decide)⟩, (Below.refl _ _).alloc (Nat.le_refl _) _⟩
  · skip
    by_cases g1 : left - x.pre.size - x.loc.size < 0
    · go_enter Try.func93, Try.ntmps93
      go_wp2
      go_ret
      exact ⟨⟨-1, rfl, .inl (by decide)⟩, (Below.refl _ _).alloc (Nat.le_refl _) _⟩
    · skip
      by_cases g2 : left - x.pre.size - x.loc.size - x.uri.size < 0
      · go_enter Try.func93, Try.ntmps93
        go_wp2
        go_ret
        exact ⟨⟨-1, rfl, .inl (by decide)⟩, (Below.refl _ _).alloc (Nat.le_refl _) _⟩
      · skip
        by_cases g3 : left - x.pre.size - x.loc.size - x.uri.size - x.val.size < 0
        · go_enter Try.func93, Try.ntmps93
          go_wp2
          go_ret
          exact ⟨⟨-1, rfl, .inl (by decide)⟩, (Below.refl _ _).alloc (Nat.le_refl _) _⟩
        · have H3 : Hid (0 ≤ left - x.pre.size - x.loc.size - x.uri.size - x.val.size ∧ left - x.pre.size - x.loc.size - x.uri.size - x.val.size = left - x.size) := by
            show _ ∧ _
            unfold Att.size
            omega
          go_enter Try.func93, Try.ntmps93
          go_wp2
          go_ret
          exact ⟨⟨_, rfl, .inr ⟨H3.out.2, H3.out.1⟩⟩, (Below.refl _ _).alloc (Nat.le_refl _) _⟩
set_option maxRecDepth 100000 in
set_option maxHeartbeats 2000000 in
theorem sz_atts (w : World) (a : Option Addr) (L : List Att) (cap : Nat) (left : Nat) (hl : left ≤ 1048576) (hL : Hid (AttsAt w a L)) :
    Calls Try.prog 67 #[.slice a L.length cap, .int .i64 left] w fun e w' => (∃ r : Int, e = .returned (.int .i64 r) ∧ (0 ≤ r → r = (left : Int) - smallA L)) ∧ Below w.heap.size w w' := by
  have hlen := hL.out.short
  unfold maxLen at hlen
  by_cases hb : (left : Int) - (L.length : Int) < 0
  · go_enter Try.func67, Try.ntmps67
    go_wp2
    go_ret
    exact ⟨⟨-1, rfl, fun h => by omega⟩, Below.refl _ _⟩
  · go_enter Try.func67, Try.ntmps67
    go_wp2
    go_loopw [1, 5] (fun l t wr => ∃ (k : Nat) (r : Int), k ≤ L.length ∧ t = .int .i64 k ∧ l = .int .i64 r ∧ 0 ≤ r ∧ r ≤ 1048576 ∧ Hid (r = left - L.length - asizeTo L k) ∧ Hid (Below w.heap.size w wr)) (fun _ t _ => L.length - (intOf t).toNat)
    case atStart => exact ⟨0, _, Nat.zero_le _, rfl, rfl, by omega, by omega, by show _ = _; simp [asizeTo], Below.refl _ _⟩
    case round =>
      obtain ⟨k, r, hk, rfl, rfl, hr0, hr1, hr, hbw⟩ := hrel
      by_cases hlt : k < L.length
      · obtain ⟨b, off, ha, hblt, hc⟩ := (hL.out.below (Nat.le_refl _) hbw.out).row (by omega)
        obtain ⟨hc1, hc2, hc3, hc4⟩ := hc k hlt
        have hsz := fun w => sz_att (att0 L k) r w (hL.out.texts k hlt) hr0 hr1
        have hst : asizeTo L (k + 1) = asizeTo L k + (att0 L k).size := rfl
        subst ha
        generalize att0 L k = x at hc1 hc2 hc3 hc4 hsz hst
        have HSZ : Hid (∀ w, _) := hsz
        have HST : Hid _ := hst
        clear hsz hst hc
        go_wp2_with fail
        refine (HSZ.out _).mono ?_
        rintro e w2 ⟨⟨r', rfl, hr'⟩, hb2⟩
        have HB2 : Hid _ := hbw.out.trans (hb2.mono hbw.out.size)
        clear hb2
        rcases hr' with hr' | ⟨hr', hr2⟩
        · go_wp2
          go_ret
          exact ⟨⟨-1, rfl, fun h => by omega⟩, HB2.out⟩
        · have HR : Hid (r' = r - x.size) := hr'
          have hle : r' ≤ 1048576 := by omega
          clear hr'
          go_wp2
          go_roundw
          case rel => exact ⟨k + 1, r', by omega, by go_num, rfl, hr2, hle, by show _ = _; rw [HR.out, hr.out, HST.out]; omega, HB2.out⟩
          case measure => simp [intOf]; omega
      · have HF : Hid (r = (left : Int) - smallA L) := by
          have h1 := hr.out
          show r = _
          unfold smallA
          rw [show k = L.length by omega] at h1
          omega
        go_wp2
        go_ret
        exact ⟨⟨_, rfl, fun _ => HF.out⟩, hbw.out⟩
theorem info_att : (Try.prog.info? 87).map (fun i => (i.zero, i.size, i.bytes)) = some (some (.agg #[.string ⟨#[]⟩, .string ⟨#[]⟩, .string ⟨#[]⟩, .string ⟨#[]⟩]), 4, 64) := by kernel_rfl
/-- A row of the call's own, of as many Attrs, the first k of which are there already. -/
structure MadeA (w : World) (g : Nat) (L : List Att) (k : Nat) : Prop where
  all : ∃ (cur : Array Value) (t : TypeId), w.heap[g]? = some (.cells cur t (0, 0)) ∧ L.length * 4 ≤ cur.size ∧ ∀ j, j < k → cur[j * 4]? = some (.string (att0 L j).pre) ∧ cur[j * 4 + 1]? = some (.string (att0 L j).loc) ∧ cur[j * 4 + 2]? = some (.string (att0 L j).uri) ∧ cur[j * 4 + 3]? = some (.string (att0 L j).val)
theorem MadeA.next {w w2 : World} {g : Nat} {L : List Att} {k : Nat} (h : MadeA w g L k) (hk : k < L.length) (hb : Below w.heap.size w w2) :
    ∃ c0 c1 c2 c3, w2.cell? ⟨g, k * 4, none⟩ = some c0 ∧ w2.cell? ⟨g, k * 4 + 1, none⟩ = some c1 ∧ w2.cell? ⟨g, k * 4 + 2, none⟩ = some c2 ∧ w2.cell? ⟨g, k * 4 + 3, none⟩ = some c3 ∧ w2.frozen? ⟨g, k * 4, none⟩ = false ∧ w2.frozen? ⟨g, k * 4 + 1, none⟩ = false ∧ w2.frozen? ⟨g, k * 4 + 2, none⟩ = false ∧ w2.frozen? ⟨g, k * 4 + 3, none⟩ = false ∧
      MadeA ((((w2.setCell ⟨g, k * 4, none⟩ (.string (att0 L k).pre)).setCell ⟨g, k * 4 + 1, none⟩ (.string (att0 L k).loc)).setCell ⟨g, k * 4 + 2, none⟩ (.string (att0 L k).uri)).setCell ⟨g, k * 4 + 3, none⟩ (.string (att0 L k).val)) g L (k + 1) := by
  obtain ⟨cur, t, hg, hs, hj⟩ := h.all
  have hg2 : w2.heap[g]? = some (.cells cur t (0, 0)) := (hb.block g (pairs.lt_heap hg)).trans hg
  have h1 : k * 4 + 3 < cur.size := by omega
  refine ⟨cur[k * 4], cur[k * 4 + 1], cur[k * 4 + 2], cur[k * 4 + 3], by simp [World.cell?, hg2, show k * 4 < cur.size by omega], by simp [World.cell?, hg2, show k * 4 + 1 < cur.size by omega], by simp [World.cell?, hg2, show k * 4 + 2 < cur.size by omega], by simp [World.cell?, hg2, h1], by simp [World.frozen?, hg2], by simp [World.frozen?, hg2], by simp [World.frozen?, hg2], by simp [World.frozen?, hg2], ⟨_, t, pairs.block_set _ (pairs.block_set _ (pairs.block_set _ (pairs.block_set _ hg2))), by simpa using hs, fun j hj' => ?_⟩⟩
  by_cases e : j = k
  · subst e
    refine ⟨?_, ?_, ?_, ?_⟩
    all_goals grind
  · obtain ⟨a1, a2, a3, a4⟩ := hj j (by omega)
    refine ⟨?_, ?_, ?_, ?_⟩
    all_goals
      repeat rw [Array.getElem?_setIfInBounds_ne (by omega)]
      assumption
theorem MadeA.atts {w : World} {g : Nat} {L : List Att} (h : MadeA w g L L.length) (hl : L.length ≤ maxLen) (ht : ∀ i, i < L.length → (att0 L i).fits) : AttsAt w (some ⟨g, 0, none⟩) L := by
  obtain ⟨cur, t, hg, hs, hj⟩ := h.all
  refine ⟨fun _ => ⟨g, 0, rfl, pairs.lt_heap hg, fun i hi => ?_⟩, hl, ht⟩
  obtain ⟨a1, a2, a3, a4⟩ := hj i hi
  refine ⟨?_, ?_, ?_, ?_⟩
  · simp [World.cell?, hg, a1]
  · simp [World.cell?, hg, a2]
  · simp [World.cell?, hg, a3]
  · simp [World.cell?, hg, a4]
theorem madeA_new {w : World} {B g cap : Nat} {t : TypeId} {L : List Att} {xs : List Value} (h : w.ownsRow B t 4 (.slice (some ⟨g, 0, none⟩) L.length cap) L.length xs) (hc : cap = L.length) : MadeA w g L 0 := by
  rcases h.2 with ⟨h', _⟩ | ⟨g', cap', cur, h', _, hg, _, _, hs, _⟩
  · cases h'
  · cases h'
    subst hc
    exact ⟨cur, t, hg, by omega, fun j hj => by omega⟩
set_option maxHeartbeats 1000000 in
theorem to_att (x : Att) (w : World) : Calls Try.prog 95 #[.agg #[.string x.pre, .string x.loc, .string x.uri, .string x.val]] w fun e w' => e = .returned (.agg #[.string x.pre, .string x.loc, .string x.uri, .string x.val]) ∧ Below w.heap.size w w' := by
  go_enter Try.func95, Try.ntmps95
  go_wp2
  refine bodyPost_ret (by simp [results, Try.results95, go_sem]; try rfl) rfl ?_
  exact ⟨rfl, (((Below.refl _ _).alloc (Nat.le_refl _) _).alloc (by simp) _).alloc (by simp; omega) _⟩
set_option maxRecDepth 100000 in
set_option maxHeartbeats 2000000 in
theorem mk_atts (w : World) (a : Option Addr) (L : List Att) (cap : Nat) (hL : Hid (AttsAt w a L)) (hz : L.length ≤ 1048576) :
    Calls Try.prog 69 #[.slice a L.length cap] w fun e w' => (∃ g, e = .returned (.slice (some ⟨g, 0, none⟩) L.length L.length) ∧ w.heap.size ≤ g ∧ AttsAt w' (some ⟨g, 0, none⟩) L ∧ MadeA w' g L L.length) ∧ Below w.heap.size w w' := by
  go_enter Try.func69, Try.ntmps69
  go_wp2
  obtain ⟨i0, hi, hz0, hz1, hz2⟩ := info_parts info_att
  obtain ⟨w1, hrun, hown, hgr⟩ := run_make_full (P := Try.prog) w w.heap.size 25 87 i0 (.agg #[.string ⟨#[]⟩, .string ⟨#[]⟩, .string ⟨#[]⟩, .string ⟨#[]⟩]) 4 Try.underlying25 hi hz0 hz1 .i64 .i64 L.length (by rw [hz2]; omega) (by unfold maxLen; omega) (Nat.le_refl _)
  refine pairs.upon_of_run hrun ?_
  have hm : MadeA w1 w.heap.size L 0 := madeA_new hown rfl
  have HM : Hid _ := hm
  have HB : Hid (Below w.heap.size w w1) := (Below.refl _ _).grown hgr (Nat.le_refl _) (fun k hk => by cases hk)
  clear hm hrun hown hgr
  go_wp2
  go_loopw [4] (fun t wr => ∃ (k : Nat), k ≤ L.length ∧ t = .int .i64 k ∧ Hid (MadeA wr w.heap.size L k) ∧ Hid (Below w.heap.size w wr)) (fun t _ => L.length - (intOf t).toNat)
  case atStart => exact ⟨0, Nat.zero_le _, rfl, HM, HB⟩
  case round =>
    obtain ⟨k, hk, rfl, hmr, hbw⟩ := hrel
    by_cases hlt : k < L.length
    · obtain ⟨b, off, ha, hblt, hc⟩ := (hL.out.below (Nat.le_refl _) hbw.out).row (by omega)
      obtain ⟨hc1, hc2, hc3, hc4⟩ := hc k hlt
      have hmn := fun w2 (h : Below wr.heap.size wr w2) => hmr.out.next hlt h
      subst ha
      generalize att0 L k = x at hc1 hc2 hc3 hc4 hmn
      have HMN : Hid _ := hmn
      clear hc hmn
      go_wp2_with fail
      refine (to_att x _).mono ?_
      rintro e w2 ⟨rfl, hb2⟩
      obtain ⟨c0, c1, c2, c3, hd0, hd1, hd2, hd3, hf0, hf1, hf2, hf3, hnext⟩ := HMN.out w2 hb2
      have HB2 : Hid _ := hbw.out.trans (hb2.mono hbw.out.size)
      have HNX : Hid _ := hnext
      clear hb2 hnext
      go_wp2
      go_roundw
      case rel => exact ⟨k + 1, by omega, by go_num, HNX.out, pairs.below_set (pairs.below_set (pairs.below_set (pairs.below_set HB2.out (Nat.le_refl _)) (Nat.le_refl _)) (Nat.le_refl _)) (Nat.le_refl _)⟩
      case measure => simp [intOf]; omega
    · have HF : Hid (AttsAt wr (some ⟨w.heap.size, 0, none⟩) L ∧ MadeA wr w.heap.size L L.length) := by
        have h1 := hmr.out
        rw [show k = L.length by omega] at h1
        exact ⟨h1.atts hL.out.short hL.out.texts, h1⟩
      go_wp2
      go_ret
      exact ⟨⟨_, rfl, Nat.le_refl _, HF.out⟩, hbw.out⟩
set_option maxHeartbeats 1000000 in
theorem eq_att (x : Att) (w : World) : Calls Try.prog 97 #[.agg #[.string x.pre, .string x.loc, .string x.uri, .string x.val], .agg #[.string x.pre, .string x.loc, .string x.uri, .string x.val]] w fun e w' => e = .returned (.bool true) ∧ Below w.heap.size w w' := by
  go_enter Try.func97, Try.ntmps97
  go_wp2
  go_ret
  exact ⟨rfl, ((Below.refl _ _).alloc (Nat.le_refl _) _).alloc (by simp) _⟩
set_option maxRecDepth 100000 in
set_option maxHeartbeats 2000000 in
theorem eq_atts (w : World) (a a' : Option Addr) (L : List Att) (cap cap' : Nat) (hL : Hid (AttsAt w a L)) (hL' : Hid (AttsAt w a' L)) :
    Calls Try.prog 71 #[.slice a L.length cap, .slice a' L.length cap'] w fun e w' => e = .returned (.bool true) ∧ Below w.heap.size w w' := by
  have hlen := hL.out.short
  unfold maxLen at hlen
  go_enter Try.func71, Try.ntmps71
  go_wp2
  go_loopw [5] (fun t wr => ∃ (k : Nat), k ≤ L.length ∧ t = .int .i64 k ∧ Hid (Below w.heap.size w wr)) (fun t _ => L.length - (intOf t).toNat)
  case atStart => exact ⟨0, Nat.zero_le _, rfl, Below.refl _ _⟩
  case round =>
    obtain ⟨k, hk, rfl, hbw⟩ := hrel
    by_cases hlt : k < L.length
    · obtain ⟨b, off, ha, hblt, hc⟩ := (hL.out.below (Nat.le_refl _) hbw.out).row (by omega)
      obtain ⟨b', off', ha', hblt', hc'⟩ := (hL'.out.below (Nat.le_refl _) hbw.out).row (by omega)
      have hl : ∀ W, Below wr.heap.size wr W → W.cell? ⟨b, off + k * 4, none⟩ = some (.string (att0 L k).pre) ∧ W.cell? ⟨b, off + k * 4 + 1, none⟩ = some (.string (att0 L k).loc) ∧ W.cell? ⟨b, off + k * 4 + 2, none⟩ = some (.string (att0 L k).uri) ∧ W.cell? ⟨b, off + k * 4 + 3, none⟩ = some (.string (att0 L k).val) := fun W h => by
        rw [h.cell (p := ⟨b, off + k * 4, none⟩) hblt, h.cell (p := ⟨b, off + k * 4 + 1, none⟩) hblt, h.cell (p := ⟨b, off + k * 4 + 2, none⟩) hblt, h.cell (p := ⟨b, off + k * 4 + 3, none⟩) hblt]
        exact hc k hlt
      have hl' : ∀ W, Below wr.heap.size wr W → W.cell? ⟨b', off' + k * 4, none⟩ = some (.string (att0 L k).pre) ∧ W.cell? ⟨b', off' + k * 4 + 1, none⟩ = some (.string (att0 L k).loc) ∧ W.cell? ⟨b', off' + k * 4 + 2, none⟩ = some (.string (att0 L k).uri) ∧ W.cell? ⟨b', off' + k * 4 + 3, none⟩ = some (.string (att0 L k).val) := fun W h => by
        rw [h.cell (p := ⟨b', off' + k * 4, none⟩) hblt', h.cell (p := ⟨b', off' + k * 4 + 1, none⟩) hblt', h.cell (p := ⟨b', off' + k * 4 + 2, none⟩) hblt', h.cell (p := ⟨b', off' + k * 4 + 3, none⟩) hblt']
        exact hc' k hlt
      subst ha ha'
      generalize att0 L k = x at hl hl'
      clear hc hc'
      go_wp2_with fail
      refine quiets.wp_region_below (by kernel_rfl) (by kernel_rfl) ?_
      repeat (go_big_quiet_step ((first | (intro hq; rfl) | (intro hq; simp [go_sem, (hl _ hq).1, (hl _ hq).2.1, (hl _ hq).2.2.1, (hl _ hq).2.2.2]; rfl) | (intro hq; simp [go_sem, (hl' _ hq).1, (hl' _ hq).2.1, (hl' _ hq).2.2.1, (hl' _ hq).2.2.2]; rfl) | (intro hq; exact quiets.below_call (eq_att x _) hq))))
      refine wpQuiet_nil ?_
      intro w6 hb6
      have HB6 : Hid _ := hbw.out.trans (hb6.mono hbw.out.size)
      clear hb6 hl hl'
      go_wp2
      go_roundw
      case rel => exact ⟨k + 1, by omega, by go_num, HB6.out⟩
      case measure => simp [intOf]; omega
    · go_wp2
      go_ret
      exact ⟨rfl, hbw.out⟩
end Go.Proofs.Ytpejcblmglbjfaa.trees
