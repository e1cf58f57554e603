/-
  The library's public strconv.ParseUint: as the inner one; its errors are the library's own, made anew.
-/
import Derived.Test.YtekbpekfomblbaaGreatDoorParseU
namespace Go.Proofs.YtekbpekfomblbaaGreatDoor.parseu
open Go.RowKit Go.Shelf
open refs (numTo)
set_option linter.unusedVariables false
def laysTE_ren : Go.Shelf.Ren := ⟨fun | 17 => 113 | 21 => 116 | 22 => 117 | 23 => 118 | 24 => 119 | 25 => 120 | 27 => 122 | 26 => 121 | 28 => 123 | 29 => 124 | 30 => 125 | 31 => 126 | 32 => 127 | 33 => 128 | 35 => 130 | 34 => 129 | 36 => 131 | 37 => 132 | 38 => 133 | 39 => 134 | 40 => 135 | n => n, fun | 9 => 9 | 3 => 3 | 24 => 114 | 34 => 129 | 4 => 4 | 39 => 131 | 44 => 135 | 37 => 22 | 0 => 0 | 47 => 121 | 50 => 139 | 48 => 137 | 2 => 2 | 52 => 141 | 22 => 103 | 5 => 5 | 55 => 144 | 59 => 147 | 60 => 118 | 20 => 20 | 61 => 148 | 36 => 94 | 65 => 151 | 66 => 152 | 67 => 80 | n => n, fun | 0 => 7 | 1 => 8 | 2 => 9 | 3 => 10 | 4 => 11 | n => n⟩
theorem laysTE : Go.Proofs.LaysPu.n17 Tryz.prog laysTE_ren := {
  mixed := by kernel_rfl
  f17 := Tryz.func113.trans (congrArg some (by kernel_rfl))
  f21 := Tryz.func116.trans (congrArg some (by kernel_rfl))
  f22 := Tryz.func117.trans (congrArg some (by kernel_rfl))
  f23 := Tryz.func118.trans (congrArg some (by kernel_rfl))
  f24 := Tryz.func119.trans (congrArg some (by kernel_rfl))
  f25 := Tryz.func120.trans (congrArg some (by kernel_rfl))
  f26 := Tryz.func121.trans (congrArg some (by kernel_rfl))
  f27 := Tryz.func122.trans (congrArg some (by kernel_rfl))
  f28 := Tryz.func123.trans (congrArg some (by kernel_rfl))
  f29 := Tryz.func124.trans (congrArg some (by kernel_rfl))
  f30 := Tryz.func125.trans (congrArg some (by kernel_rfl))
  f31 := Tryz.func126.trans (congrArg some (by kernel_rfl))
  f32 := Tryz.func127.trans (congrArg some (by kernel_rfl))
  f33 := Tryz.func128.trans (congrArg some (by kernel_rfl))
  f34 := Tryz.func129.trans (congrArg some (by kernel_rfl))
  f35 := Tryz.func130.trans (congrArg some (by kernel_rfl))
  f36 := Tryz.func131.trans (congrArg some (by kernel_rfl))
  f37 := Tryz.func132.trans (congrArg some (by kernel_rfl))
  f38 := Tryz.func133.trans (congrArg some (by kernel_rfl))
  f39 := Tryz.func134.trans (congrArg some (by kernel_rfl))
  f40 := Tryz.func135.trans (congrArg some (by kernel_rfl))
  t0 := Tryz.underlying0
  a0 := Tryz.isAgg0
  z0 := Tryz.sizeOf0
  v0 := Tryz.zeroValue0
  i0 := by kernel_rfl
  t2 := Tryz.underlying2
  a2 := Tryz.isAgg2
  z2 := Tryz.sizeOf2
  v2 := Tryz.zeroValue2
  i2 := by kernel_rfl
  t3 := Tryz.underlying3
  a3 := Tryz.isAgg3
  z3 := Tryz.sizeOf3
  v3 := Tryz.zeroValue3
  i3 := by kernel_rfl
  t4 := Tryz.underlying4
  a4 := Tryz.isAgg4
  z4 := Tryz.sizeOf4
  v4 := Tryz.zeroValue4
  i4 := by kernel_rfl
  t5 := Tryz.underlying5
  a5 := Tryz.isAgg5
  z5 := Tryz.sizeOf5
  v5 := Tryz.zeroValue5
  i5 := by kernel_rfl
  t9 := Tryz.underlying9
  a9 := Tryz.isAgg9
  z9 := Tryz.sizeOf9
  v9 := Tryz.zeroValue9
  i9 := by kernel_rfl
  t20 := Tryz.underlying20
  a20 := Tryz.isAgg20
  z20 := Tryz.sizeOf20
  v20 := Tryz.zeroValue20
  i20 := by kernel_rfl
  t22 := Tryz.underlying103
  a22 := Tryz.isAgg103
  z22 := Tryz.sizeOf103
  v22 := Tryz.zeroValue103
  i22 := by kernel_rfl
  t24 := Tryz.underlying114
  a24 := Tryz.isAgg114
  z24 := Tryz.sizeOf114
  v24 := Tryz.zeroValue114
  i24 := by kernel_rfl
  t34 := Tryz.underlying129
  a34 := Tryz.isAgg129
  z34 := Tryz.sizeOf129
  v34 := Tryz.zeroValue129
  i34 := by kernel_rfl
  c34 := by kernel_rfl
  t36 := Tryz.underlying94
  a36 := Tryz.isAgg94
  z36 := Tryz.sizeOf94
  v36 := Tryz.zeroValue94
  i36 := by kernel_rfl
  t37 := Tryz.underlying22
  a37 := Tryz.isAgg22
  z37 := Tryz.sizeOf22
  v37 := Tryz.zeroValue22
  i37 := by kernel_rfl
  t39 := Tryz.underlying131
  a39 := Tryz.isAgg131
  z39 := Tryz.sizeOf131
  v39 := Tryz.zeroValue131
  i39 := by kernel_rfl
  t44 := Tryz.underlying135
  a44 := Tryz.isAgg135
  z44 := Tryz.sizeOf135
  v44 := Tryz.zeroValue135
  i44 := by kernel_rfl
  t47 := Tryz.underlying121
  a47 := Tryz.isAgg121
  z47 := Tryz.sizeOf121
  v47 := Tryz.zeroValue121
  i47 := by kernel_rfl
  t48 := Tryz.underlying137
  a48 := Tryz.isAgg137
  z48 := Tryz.sizeOf137
  v48 := Tryz.zeroValue137
  i48 := by kernel_rfl
  t50 := Tryz.underlying139
  a50 := Tryz.isAgg139
  z50 := Tryz.sizeOf139
  v50 := Tryz.zeroValue139
  i50 := by kernel_rfl
  t52 := Tryz.underlying141
  a52 := Tryz.isAgg141
  z52 := Tryz.sizeOf141
  v52 := Tryz.zeroValue141
  i52 := by kernel_rfl
  t55 := Tryz.underlying144
  a55 := Tryz.isAgg144
  z55 := Tryz.sizeOf144
  v55 := Tryz.zeroValue144
  i55 := by kernel_rfl
  t59 := Tryz.underlying147
  a59 := Tryz.isAgg147
  z59 := Tryz.sizeOf147
  v59 := Tryz.zeroValue147
  i59 := by kernel_rfl
  t60 := Tryz.underlying118
  a60 := Tryz.isAgg118
  z60 := Tryz.sizeOf118
  v60 := Tryz.zeroValue118
  i60 := by kernel_rfl
  t61 := Tryz.underlying148
  a61 := Tryz.isAgg148
  z61 := Tryz.sizeOf148
  t65 := Tryz.underlying151
  a65 := Tryz.isAgg151
  z65 := Tryz.sizeOf151
  v65 := Tryz.zeroValue151
  i65 := by kernel_rfl
  t66 := Tryz.underlying152
  a66 := Tryz.isAgg152
  z66 := Tryz.sizeOf152
  v66 := Tryz.zeroValue152
  i66 := by kernel_rfl
  t67 := Tryz.underlying80
  a67 := Tryz.isAgg80
  z67 := Tryz.sizeOf80
  v67 := Tryz.zeroValue80
  i67 := by kernel_rfl
  g0 := by kernel_rfl
  m0 := by kernel_rfl
  g1 := by kernel_rfl
  m1 := by kernel_rfl
  g2 := by kernel_rfl
  m2 := by kernel_rfl
  g3 := by kernel_rfl
  m3 := by kernel_rfl
  g4 := by kernel_rfl
  m4 := by kernel_rfl }
/-- The library's variable ErrSyntax holds an error, or nil. -/
structure ErrAt (w : World) : Prop where
  all : ∃ ev, w.cell? ⟨7, 0, none⟩ = some ev ∧ (ev = .nilIface ∨ ∃ te pe, ev = .iface te pe)
theorem ErrAt.below {w w' : World} (h : ErrAt w) (hb : Below w.heap.size w w') : ErrAt w' := by
  obtain ⟨ev, h1, h2⟩ := h
  have hlt : 7 < w.heap.size := by
    by_cases hlt : 7 < w.heap.size
    · exact hlt
    · simp [World.cell?, Array.getElem?_eq_none (Nat.le_of_not_lt hlt)] at h1
  exact ⟨ev, (hb.cell (p := ⟨7, 0, none⟩) hlt).trans h1, h2⟩
set_option maxHeartbeats 1000000 in
set_option maxRecDepth 100000 in
theorem parse_empty (base : Int) (hb : base = 10 ∨ base = 16) (w : World) : Calls Tryz.prog 112 #[.string ⟨#[]⟩, .int .i64 base, .int .i64 32] w fun e w' => e = .returned (outP none) ∧ Below w.heap.size w w' := by
  go_enter Tryz.func112, Tryz.ntmps112
  go_wp2
  go_ret2
  exact ⟨rfl, Below.refl _ _⟩
/-- What the digits make, if there are some. -/
def numR (t : ByteArray) (base : Int) : Option Int := if t.size = 0 then none else numTo t base t.size
theorem parse_any (t : ByteArray) (base : Int) (hb : base = 10 ∨ base = 16) (hsz : t.size ≤ 7) (w : World) :
    Calls Tryz.prog 112 #[.string t, .int .i64 base, .int .i64 32] w fun e w' => e = .returned (outP (numR t base)) ∧ Below w.heap.size w w' := by
  unfold numR
  by_cases h : t.size = 0
  · rw [if_pos h]
    obtain rfl : t = ⟨#[]⟩ := by
      obtain ⟨a⟩ := t
      have : a = #[] := Array.eq_empty_of_size_eq_zero h
      rw [this]
    exact parse_empty base hb w
  · rw [if_neg h]
    exact parse_in t base hb h hsz _ rfl w
theorem to_error (t : ByteArray) (base : Int) (hsz : t.size ≤ 7) (w : World) (hE : ErrAt w) :
    Calls Tryz.prog 113 #[.string ⟨#[80, 97, 114, 115, 101, 85, 105, 110, 116]⟩, .string t, .int .i64 base, .int .i64 32, .iface 129 (.int .i64 2)] w fun e w' => ∃ N, e = .returned (.iface 131 (.pointer (some ⟨N, 0, none⟩))) ∧ Below w.heap.size w w' := by
  obtain ⟨ev, h1, h2⟩ := hE
  refine (AnyPu.strconv_toError_syntax laysTE ⟨#[80, 97, 114, 115, 101, 85, 105, 110, 116]⟩ t base 32 ev w (by omega) h1 h2).mono ?_
  rintro e w' ⟨N, he, _, _, hb⟩
  exact ⟨N, he, hb⟩
/-- What the public one hands back. -/
def IsOut (r : Option Int) (v : Value) : Prop := (∃ n, r = some n ∧ v = .tuple #[.int .u64 n, .nilIface]) ∨ (r = none ∧ ∃ N, v = .tuple #[.int .u64 0, .iface 131 (.pointer (some ⟨N, 0, none⟩))])
set_option maxHeartbeats 1000000 in
set_option maxRecDepth 100000 in
theorem parse_uint (t : ByteArray) (base : Int) (hb : base = 10 ∨ base = 16) (hsz : t.size ≤ 7) (w : World) (hE : ErrAt w) :
    Calls Tryz.prog 111 #[.string t, .int .i64 base, .int .i64 32] w fun e w' => ∃ v, e = .returned v ∧ IsOut (numR t base) v ∧ Below w.heap.size w w' := by
  have hp := fun w => parse_any t base hb hsz w
  have hT : Hid (∀ w, ErrAt w → _) := fun w h => to_error t base hsz w h
  have HE : Hid _ := hE
  clear hE
  cases hr : numR t base with
  | some n =>
    rw [hr] at hp
    have HP : Hid (∀ w, Calls Tryz.prog 112 #[.string t, .int .i64 base, .int .i64 32] w fun e w' => e = .returned (.tuple #[.int .u64 n, .nilIface]) ∧ Below w.heap.size w w') := hp
    clear hp hr hb hsz
    go_enter Tryz.func111, Tryz.ntmps111
    go_wp2_with (go_at_call 112; refine (HP.out _).mono ?_; rintro e w1 ⟨rfl, hb1⟩)
    go_wp2
    go_ret2
    exact ⟨_, rfl, .inl ⟨n, rfl, rfl⟩, hb1⟩
  | none =>
    rw [hr] at hp
    have HP : Hid (∀ w, Calls Tryz.prog 112 #[.string t, .int .i64 base, .int .i64 32] w fun e w' => e = .returned (.tuple #[.int .u64 0, .iface 129 (.int .i64 2)]) ∧ Below w.heap.size w w') := hp
    clear hp hr hb hsz
    go_enter Tryz.func111, Tryz.ntmps111
    go_wp2_with (go_at_call 112; refine (HP.out _).mono ?_)
    rintro e w1 ⟨rfl, hb1⟩
    have HB1 : Hid _ := hb1
    clear hb1
    go_wp2_with (go_at_call 113; refine (hT.out _ (HE.out.below HB1.out)).mono ?_)
    rintro e w2 ⟨N, rfl, hb2⟩
    have HB2 : Hid _ := HB1.out.trans (hb2.mono HB1.out.size)
    clear hb2
    go_wp2
    go_ret2
    exact ⟨_, rfl, .inr ⟨rfl, N, rfl⟩, HB2.out⟩
end Go.Proofs.YtekbpekfomblbaaGreatDoor.parseu
