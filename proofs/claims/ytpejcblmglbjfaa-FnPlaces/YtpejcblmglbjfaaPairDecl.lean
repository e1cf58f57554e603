/-
  The laws' own helpers on slices of structs of two texts (Decl): how great, a copy, whether two are the same.
-/
import Derived.Test.YtpejcblmglbjfaaPairs
import Derived.Test.YtpejcblmglbjfaaQuiet
import Derived.Deep.SlicePairs
import Derived.Lib.SmallJoins
namespace Go.Proofs.Ytpejcblmglbjfaa.pairs
open Go.ChangeShapes Go.WideShapes Go.ChangeAt Go.RowKit
set_option linter.unusedVariables false
set_option maxHeartbeats 1000000 in
theorem sz_Decl (n v : ByteArray) (left : Int) (w : World) (hn : n.size ≤ maxLen) (hv : v.size ≤ maxLen) (h0 : 0 ≤ left) (h1 : left ≤ 1048576) :
    Calls Try.prog 92 #[.agg #[.string n, .string v], .int .i64 left] w fun e w' => (∃ r : Int, e = .returned (.int .i64 r) ∧ (r < 0 ∨ r = left - n.size - v.size ∧ 0 ≤ r)) ∧ Below w.heap.size w w' := by
  unfold maxLen at hn hv
  by_cases h2 : left - n.size < 0
  · go_enter Try.func92, Try.ntmps92
    go_wp2
    go_ret
    exact ⟨⟨-1, rfl, .inl (by decide)⟩, (Below.refl _ _).alloc (Nat.le_refl _) _⟩
  · by_cases h3 : left - n.size - v.size < 0
    · go_enter Try.func92, Try.ntmps92
      go_wp2
      go_ret
      exact ⟨⟨-1, rfl, .inl (by decide)⟩, (Below.refl _ _).alloc (Nat.le_refl _) _⟩
    · have H3 : Hid (0 ≤ left - n.size - v.size) := by show _ ≤ _; omega
      go_enter Try.func92, Try.ntmps92
      go_wp2
      go_ret
      exact ⟨⟨_, rfl, .inr ⟨rfl, H3.out⟩⟩, (Below.refl _ _).alloc (Nat.le_refl _) _⟩
set_option maxRecDepth 100000 in
set_option maxHeartbeats 2000000 in
theorem szx_DeclS (w : World) (a : Option Addr) (L : List Pair) (cap : Nat) (left : Nat) (hl : left ≤ 1048576) (hL : Hid (PairsAt w a L)) :
    Calls Try.prog 66 #[.slice a L.length cap, .int .i64 left] w fun e w' => (∃ r : Int, e = .returned (.int .i64 r) ∧ (0 ≤ r → r = (left : Int) - ((L.length + sizeTo L L.length : Nat) : Int))) ∧ Below w.heap.size w w' := by
  have hlen := hL.out.short
  unfold maxLen at hlen
  by_cases hb : (left : Int) - (L.length : Int) < 0
  · go_enter Try.func66, Try.ntmps66
    go_wp2
    go_ret
    exact ⟨⟨-1, rfl, fun h => by omega⟩, Below.refl _ _⟩
  · go_enter Try.func66, Try.ntmps66
    go_wp2
    go_loopw [1, 5] (fun l t wr => ∃ (k : Nat) (r : Int), k ≤ L.length ∧ t = .int .i64 k ∧ l = .int .i64 r ∧ 0 ≤ r ∧ r ≤ 1048576 ∧ Hid (r = left - L.length - sizeTo L k) ∧ Hid (Below w.heap.size w wr)) (fun _ t _ => L.length - (intOf t).toNat)
    case atStart => exact ⟨0, _, Nat.zero_le _, rfl, rfl, by omega, by omega, by show _ = _; simp [sizeTo], Below.refl _ _⟩
    case round =>
      obtain ⟨k, r, hk, rfl, rfl, hr0, hr1, hr, hbw⟩ := hrel
      by_cases hlt : k < L.length
      · obtain ⟨b, off, ha, hblt, hc⟩ := (hL.out.below (Nat.le_refl _) hbw.out).row (by omega)
        obtain ⟨hc1, hc2⟩ := hc k hlt
        have hts := hL.out.texts k hlt
        have hsz := fun w => sz_Decl (at0 L k).1 (at0 L k).2 r w hts.1 hts.2 hr0 hr1
        have hst : sizeTo L (k + 1) = sizeTo L k + (at0 L k).1.size + (at0 L k).2.size := rfl
        subst ha
        generalize (at0 L k).1 = n at hc1 hsz hst
        generalize (at0 L k).2 = v at hc2 hsz hst
        have HSZ : Hid (∀ w, _) := hsz
        have HST : Hid _ := hst
        clear hsz hst hts hc
        go_wp2_with fail
        refine (HSZ.out _).mono ?_
        rintro e w2 ⟨⟨r', rfl, hr'⟩, hb2⟩
        have HB2 : Hid _ := hbw.out.trans (hb2.mono hbw.out.size)
        clear hb2
        rcases hr' with hr' | ⟨hr', hr2⟩
        · go_wp2
          go_ret
          exact ⟨⟨-1, rfl, fun h => by omega⟩, HB2.out⟩
        · have HR : Hid (r' = r - n.size - v.size) := hr'
          have hle : r' ≤ 1048576 := by omega
          clear hr'
          go_wp2
          go_roundw
          case rel => exact ⟨k + 1, r', by omega, by go_num, rfl, hr2, hle, by show _ = _; rw [HR.out, hr.out, HST.out]; omega, HB2.out⟩
          case measure => simp [intOf]; omega
      · have HF : Hid (r = (left : Int) - ((L.length + sizeTo L L.length : Nat) : Int)) := by
          have h1 := hr.out
          show r = _
          rw [show k = L.length by omega] at h1
          omega
        go_wp2
        go_ret
        exact ⟨⟨_, rfl, fun _ => HF.out⟩, hbw.out⟩
theorem sz_DeclS (w : World) (a : Option Addr) (L : List Pair) (cap : Nat) (left : Nat) (hl : left ≤ 1048576) (hL : Hid (PairsAt w a L)) :
    Calls Try.prog 66 #[.slice a L.length cap, .int .i64 left] w fun e w' => (∃ r : Int, e = .returned (.int .i64 r) ∧ (0 ≤ r → r ≤ left ∧ Small L left)) ∧ Below w.heap.size w w' :=
  (szx_DeclS w a L cap left hl hL).mono fun e w' ⟨⟨r, he, hr⟩, hb⟩ => ⟨⟨r, he, fun h => by have := hr h; unfold Small; omega⟩, hb⟩
theorem info_Decl : (Try.prog.info? 84).map (fun i => (i.zero, i.size, i.bytes)) = some (some (.agg #[.string ⟨#[]⟩, .string ⟨#[]⟩]), 2, 32) := by kernel_rfl
set_option maxHeartbeats 1000000 in
theorem to_Decl (n v : ByteArray) (w : World) : Calls Try.prog 94 #[.agg #[.string n, .string v]] w fun e w' => e = .returned (.agg #[.string n, .string v]) ∧ Below w.heap.size w w' := by
  go_enter Try.func94, Try.ntmps94
  go_wp2
  refine bodyPost_ret (by simp [results, Try.results94, go_sem]; try rfl) rfl ?_
  exact ⟨rfl, (((Below.refl _ _).alloc (Nat.le_refl _) _).alloc (by simp) _).alloc (by simp; omega) _⟩
set_option maxHeartbeats 1000000 in
theorem eq_Decl (n v : ByteArray) (w : World) : Calls Try.prog 96 #[.agg #[.string n, .string v], .agg #[.string n, .string v]] w fun e w' => e = .returned (.bool true) ∧ Below w.heap.size w w' := by
  go_enter Try.func96, Try.ntmps96
  go_wp2
  go_ret
  exact ⟨rfl, ((Below.refl _ _).alloc (Nat.le_refl _) _).alloc (by simp) _⟩
set_option maxRecDepth 100000 in
set_option maxHeartbeats 2000000 in
theorem eq_DeclS (w : World) (a a' : Option Addr) (L : List Pair) (cap cap' : Nat) (hL : Hid (PairsAt w a L)) (hL' : Hid (PairsAt w a' L)) :
    Calls Try.prog 70 #[.slice a L.length cap, .slice a' L.length cap'] w fun e w' => e = .returned (.bool true) ∧ Below w.heap.size w w' := by
  have hlen := hL.out.short
  unfold maxLen at hlen
  go_enter Try.func70, Try.ntmps70
  go_wp2
  go_loopw [5] (fun t wr => ∃ (k : Nat), k ≤ L.length ∧ t = .int .i64 k ∧ Hid (Below w.heap.size w wr)) (fun t _ => L.length - (intOf t).toNat)
  case atStart => exact ⟨0, Nat.zero_le _, rfl, Below.refl _ _⟩
  case round =>
    obtain ⟨k, hk, rfl, hbw⟩ := hrel
    by_cases hlt : k < L.length
    · obtain ⟨b, off, ha, hblt, hc⟩ := (hL.out.below (Nat.le_refl _) hbw.out).row (by omega)
      obtain ⟨b', off', ha', hblt', hc'⟩ := (hL'.out.below (Nat.le_refl _) hbw.out).row (by omega)
      obtain ⟨hc1, hc2⟩ := hc k hlt
      obtain ⟨hc1', hc2'⟩ := hc' k hlt
      subst ha ha'
      generalize (at0 L k).1 = n at hc1 hc1'
      generalize (at0 L k).2 = v at hc2 hc2'
      clear hc hc'
      have hl : ∀ W, Below wr.heap.size wr W → W.cell? ⟨b, off + k * 2, none⟩ = some (.string n) ∧ W.cell? ⟨b, off + k * 2 + 1, none⟩ = some (.string v) := fun W h => ⟨(h.cell (p := ⟨b, off + k * 2, none⟩) hblt).trans hc1, (h.cell (p := ⟨b, off + k * 2 + 1, none⟩) hblt).trans hc2⟩
      have hl' : ∀ W, Below wr.heap.size wr W → W.cell? ⟨b', off' + k * 2, none⟩ = some (.string n) ∧ W.cell? ⟨b', off' + k * 2 + 1, none⟩ = some (.string v) := fun W h => ⟨(h.cell (p := ⟨b', off' + k * 2, none⟩) hblt').trans hc1', (h.cell (p := ⟨b', off' + k * 2 + 1, none⟩) hblt').trans hc2'⟩
      go_wp2_with fail
      refine quiets.wp_region_below (by kernel_rfl) (by kernel_rfl) ?_
      repeat (go_big_quiet_step ((first | (intro hq; rfl) | (intro hq; simp [go_sem, (hl _ hq).1, (hl _ hq).2]; rfl) | (intro hq; simp [go_sem, (hl' _ hq).1, (hl' _ hq).2]; rfl) | (intro hq; exact quiets.below_call (eq_Decl _ _ _) hq))))
      refine wpQuiet_nil ?_
      intro w6 hb6
      have HB6 : Hid _ := hbw.out.trans (hb6.mono hbw.out.size)
      clear hb6 hl hl'
      go_wp2
      go_roundw
      case rel => exact ⟨k + 1, by omega, by go_num, HB6.out⟩
      case measure => simp [intOf]; omega
    · go_wp2
      go_ret
      exact ⟨rfl, hbw.out⟩
set_option maxRecDepth 100000 in
set_option maxHeartbeats 2000000 in
theorem mk_DeclS (w : World) (a : Option Addr) (L : List Pair) (cap : Nat) (hL : Hid (PairsAt w a L)) (hz : L.length ≤ 1048576) :
    Calls Try.prog 68 #[.slice a L.length cap] w fun e w' => (∃ g, e = .returned (.slice (some ⟨g, 0, none⟩) L.length L.length) ∧ w.heap.size ≤ g ∧ PairsAt w' (some ⟨g, 0, none⟩) L ∧ Made w' g L L.length) ∧ Below w.heap.size w w' := by
  go_enter Try.func68, Try.ntmps68
  go_wp2
  obtain ⟨i0, hi, hz0, hz1, hz2⟩ := info_parts info_Decl
  obtain ⟨w1, hrun, hown, hgr⟩ := run_make_full (P := Try.prog) w w.heap.size 24 84 i0 (.agg #[.string ⟨#[]⟩, .string ⟨#[]⟩]) 2 Try.underlying24 hi hz0 hz1 .i64 .i64 L.length (by rw [hz2]; omega) (by unfold maxLen; omega) (Nat.le_refl _)
  refine upon_of_run hrun ?_
  have hm : Made w1 w.heap.size L 0 := made_new hown rfl
  have HM : Hid _ := hm
  have HB : Hid (Below w.heap.size w w1) := (Below.refl _ _).grown hgr (Nat.le_refl _) (fun k hk => by cases hk)
  clear hm hrun hown hgr
  go_wp2
  go_loopw [4] (fun t wr => ∃ (k : Nat), k ≤ L.length ∧ t = .int .i64 k ∧ Hid (Made wr w.heap.size L k) ∧ Hid (Below w.heap.size w wr)) (fun t _ => L.length - (intOf t).toNat)
  case atStart => exact ⟨0, Nat.zero_le _, rfl, HM, HB⟩
  case round =>
    obtain ⟨k, hk, rfl, hmr, hbw⟩ := hrel
    by_cases hlt : k < L.length
    · obtain ⟨b, off, ha, hblt, hc⟩ := (hL.out.below (Nat.le_refl _) hbw.out).row (by omega)
      obtain ⟨hc1, hc2⟩ := hc k hlt
      have hmn := fun w2 (h : Below wr.heap.size wr w2) => hmr.out.next hlt h
      subst ha
      generalize (at0 L k).1 = n at hc1 hmn
      generalize (at0 L k).2 = v at hc2 hmn
      have HMN : Hid _ := hmn
      clear hc hmn
      go_wp2_with fail
      refine (to_Decl _ _ _).mono ?_
      rintro e w2 ⟨rfl, hb2⟩
      obtain ⟨c1, c2, hd1, hd2, hf1, hf2, hnext⟩ := HMN.out w2 hb2
      have HB2 : Hid _ := hbw.out.trans (hb2.mono hbw.out.size)
      have HNX : Hid _ := hnext
      clear hb2 hnext
      go_wp2
      go_roundw
      case rel => exact ⟨k + 1, by omega, by go_num, HNX.out, below_set (below_set HB2.out (Nat.le_refl _)) (Nat.le_refl _)⟩
      case measure => simp [intOf]; omega
    · have HF : Hid (PairsAt wr (some ⟨w.heap.size, 0, none⟩) L ∧ Made wr w.heap.size L L.length) := by
        have h1 := hmr.out
        rw [show k = L.length by omega] at h1
        exact ⟨h1.pairs hL.out.short hL.out.texts, h1⟩
      go_wp2
      go_ret
      exact ⟨⟨_, rfl, Nat.le_refl _, HF.out⟩, hbw.out⟩
theorem to_DeclS (w : World) (a : Option Addr) (L : List Pair) (cap : Nat) (hL : Hid (PairsAt w a L)) (hz : L.length ≤ 1048576) :
    Calls Try.prog 68 #[.slice a L.length cap] w fun e w' => (∃ g, e = .returned (.slice (some ⟨g, 0, none⟩) L.length L.length) ∧ w.heap.size ≤ g ∧ PairsAt w' (some ⟨g, 0, none⟩) L) ∧ Below w.heap.size w w' :=
  (mk_DeclS w a L cap hL hz).mono fun _ _ ⟨⟨g, he, hg, hp, _⟩, hb⟩ => ⟨⟨g, he, hg, hp⟩, hb⟩
/-! ### What came in -/
theorem under_Decl : ∃ f0 f1 : Field, Try.prog.underlying 115 = some (.struct #[f0, f1]) ∧ f0.offset = 0 ∧ f1.offset = 1 ∧ f0.type = 9 ∧ f1.type = 9 := by
  refine ⟨_, _, Try.underlying115, rfl, rfl, rfl, rfl⟩
theorem cells_Decl : Try.prog.cellsOf 115 = 2 := by kernel_rfl
theorem open_Decl {H : Type} {enc : TypeId × Value → H} {W : World} {base : Nat} {spare : Nat → Bool} {held : Bool} {fuel : Nat} {cs : List Value} {x : DataW H × List MemPlace}
    (h : DataW.trod enc Try.prog W base spare held fuel 48 cs = some x) : ∃ (a : Option Addr) (cap : Nat) (L : List Pair), cs = [.slice a L.length cap] ∧ PairsAt W a L := by
  obtain ⟨f0, f1, hu, o0, o1, t0, t1⟩ := under_Decl
  have c0 : Try.prog.cellsOf f0.type = 1 := by rw [t0]; kernel_rfl
  have c1 : Try.prog.cellsOf f1.type = 1 := by rw [t1]; kernel_rfl
  rcases Deep.open_slice_pairs Try.underlying48 hu cells_Decl o0 o1 c0 c1 h with ⟨hcs, _⟩ | ⟨a, len, cap, m, k, V0, V1, D0, D1, P0, P1, hcs, _, hlc, hcm, hm, hx, hel⟩
  · exact ⟨none, 0, [], hcs, ⟨fun h => absurd h (by decide), Nat.zero_le _, fun i hi => absurd hi (Nat.not_lt_zero _)⟩⟩
  · have hlm : len ≤ m := by rw [hm]; split <;> omega
    have hstr : ∀ i, i < len → (∃ s0, V0 i = .string s0 ∧ s0.size ≤ maxLen) ∧ ∃ s1, V1 i = .string s1 ∧ s1.size ≤ maxLen := by
      intro i hi
      obtain ⟨_, _, r0, r1⟩ := hel i (by omega)
      rw [t0] at r0
      rw [t1] at r1
      obtain ⟨s0, e0, _, z0⟩ := DataW.trod_string Try.underlying9 r0
      obtain ⟨s1, e1, _, z1⟩ := DataW.trod_string Try.underlying9 r1
      simp only [List.cons.injEq, and_true] at e0 e1
      exact ⟨⟨s0, e0, z0⟩, s1, e1, z1⟩
    have hL : ∀ i, i < len → at0 ((List.range len).map fun i => (strOf (V0 i), strOf (V1 i))) i = (strOf (V0 i), strOf (V1 i)) := fun i hi => by
      unfold at0
      simp [List.getD, hi]
    refine ⟨some a, cap, (List.range len).map fun i => (strOf (V0 i), strOf (V1 i)), by simpa using hcs, ⟨fun h0 => ?_, ?_, fun i hi => ?_⟩⟩
    · rw [List.length_map, List.length_range] at h0
      obtain ⟨g0, g1, _, _⟩ := hel 0 (by omega)
      obtain ⟨b, off, spot⟩ := a
      have hspot : spot = none := by simpa [Addr.add] using World.cell?_spot g0
      subst hspot
      refine ⟨b, off, rfl, ?_, fun i hi => ?_⟩
      · have := World.block_lt_of_cell? W _ g0
        rwa [Addr.add_lit] at this
      · rw [List.length_map, List.length_range] at hi
        obtain ⟨d0, d1, _, _⟩ := hel i (by omega)
        obtain ⟨⟨s0, e0, _⟩, s1, e1, _⟩ := hstr i hi
        rw [hL i hi, e0, e1]
        rw [Addr.add_lit, e0] at d0
        rw [Addr.add_lit, e1, ← Nat.add_assoc] at d1
        exact ⟨d0, d1⟩
    · rw [List.length_map, List.length_range]
      exact Nat.le_trans hlc hcm
    · rw [List.length_map, List.length_range] at hi
      obtain ⟨⟨s0, e0, z0⟩, s1, e1, z1⟩ := hstr i hi
      rw [hL i hi, e0, e1]
      exact ⟨z0, z1⟩
set_option maxRecDepth 100000 in
theorem open_val_Decl {H : Type} {enc : TypeId × Value → H} {W : World} {base : Nat} {spare : Nat → Bool} {held : Bool} {r : Reach} {b0 : Nat} {v : Value} {d : DataW H} {p : List MemPlace}
    (hv : Value.okWide Try.prog W r b0 115 v) (h : DataW.Trod enc Try.prog W base spare held 115 v d p) : ∃ n u : ByteArray, v = .agg #[.string n, .string u] ∧ n.size ≤ maxLen ∧ u.size ≤ maxLen := by
  obtain ⟨f0, f1, hu, o0, o1, t0, t1⟩ := under_Decl
  have c0 : Try.prog.cellsOf f0.type = 1 := by rw [t0]; kernel_rfl
  have c1 : Try.prog.cellsOf f1.type = 1 := by rw [t1]; kernel_rfl
  obtain ⟨cs, rfl, hsz⟩ := okWide_struct hu hv
  obtain ⟨x0, x1, rfl⟩ := Joins.array2 (hsz.trans cells_Decl)
  obtain ⟨fuel, hf⟩ := h
  obtain ⟨y0, y1, n, hx, _, h0, h1⟩ := trod_struct2 hu hf
  have h0' : DataW.trod enc Try.prog W base spare held n f0.type [x0] = some y0 := by simpa [Value.cells, o0, c0] using h0
  have h1' : DataW.trod enc Try.prog W base spare held n f1.type [x1] = some y1 := by simpa [Value.cells, o1, c1] using h1
  rw [t0] at h0'
  rw [t1] at h1'
  obtain ⟨s0, e0, _, z0⟩ := DataW.trod_string Try.underlying9 h0'
  obtain ⟨s1, e1, _, z1⟩ := DataW.trod_string Try.underlying9 h1'
  simp only [List.cons.injEq, and_true] at e0 e1
  exact ⟨s0, s1, by rw [e0, e1], z0, z1⟩
end Go.Proofs.Ytpejcblmglbjfaa.pairs
