/-
  The library's public strconv.ParseUint: as the inner one; its errors are the library's own, made anew.
-/
import Derived.Test.YtehdpkigfjjbaaaGreatDoorParseU
namespace Go.Proofs.YtehdpkigfjjbaaaGreatDoor.parseu
open Go.RowKit Go.Shelf
open refs (numTo)
set_option linter.unusedVariables false
def laysTE_ren : Go.Shelf.Ren := ⟨fun | 17 => 115 | 21 => 118 | 22 => 119 | 23 => 120 | 24 => 121 | 25 => 122 | 27 => 124 | 26 => 123 | 28 => 125 | 29 => 126 | 30 => 127 | 31 => 128 | 32 => 129 | 33 => 130 | 35 => 132 | 34 => 131 | 36 => 133 | 37 => 134 | 38 => 135 | 39 => 136 | 40 => 137 | n => n, fun | 9 => 9 | 3 => 3 | 24 => 112 | 34 => 127 | 4 => 4 | 39 => 129 | 44 => 133 | 37 => 71 | 0 => 0 | 47 => 119 | 50 => 137 | 48 => 135 | 2 => 2 | 52 => 139 | 22 => 103 | 5 => 5 | 55 => 142 | 59 => 145 | 60 => 116 | 20 => 20 | 61 => 146 | 36 => 95 | 65 => 149 | 66 => 150 | 67 => 83 | n => n, fun | 0 => 7 | 1 => 8 | 2 => 9 | 3 => 10 | 4 => 11 | n => n⟩
theorem laysTE : Go.Proofs.LaysPu.n17 Tryz.prog laysTE_ren := {
  mixed := by kernel_rfl
  f17 := Tryz.func115.trans (congrArg some (by kernel_rfl))
  f21 := Tryz.func118.trans (congrArg some (by kernel_rfl))
  f22 := Tryz.func119.trans (congrArg some (by kernel_rfl))
  f23 := Tryz.func120.trans (congrArg some (by kernel_rfl))
  f24 := Tryz.func121.trans (congrArg some (by kernel_rfl))
  f25 := Tryz.func122.trans (congrArg some (by kernel_rfl))
  f26 := Tryz.func123.trans (congrArg some (by kernel_rfl))
  f27 := Tryz.func124.trans (congrArg some (by kernel_rfl))
  f28 := Tryz.func125.trans (congrArg some (by kernel_rfl))
  f29 := Tryz.func126.trans (congrArg some (by kernel_rfl))
  f30 := Tryz.func127.trans (congrArg some (by kernel_rfl))
  f31 := Tryz.func128.trans (congrArg some (by kernel_rfl))
  f32 := Tryz.func129.trans (congrArg some (by kernel_rfl))
  f33 := Tryz.func130.trans (congrArg some (by kernel_rfl))
  f34 := Tryz.func131.trans (congrArg some (by kernel_rfl))
  f35 := Tryz.func132.trans (congrArg some (by kernel_rfl))
  f36 := Tryz.func133.trans (congrArg some (by kernel_rfl))
  f37 := Tryz.func134.trans (congrArg some (by kernel_rfl))
  f38 := Tryz.func135.trans (congrArg some (by kernel_rfl))
  f39 := Tryz.func136.trans (congrArg some (by kernel_rfl))
  f40 := Tryz.func137.trans (congrArg some (by kernel_rfl))
  t0 := Tryz.underlying0
  a0 := Tryz.isAgg0
  z0 := Tryz.sizeOf0
  v0 := Tryz.zeroValue0
  i0 := by kernel_rfl
  t2 := Tryz.underlying2
  a2 := Tryz.isAgg2
  z2 := Tryz.sizeOf2
  v2 := Tryz.zeroValue2
  i2 := by kernel_rfl
  t3 := Tryz.underlying3
  a3 := Tryz.isAgg3
  z3 := Tryz.sizeOf3
  v3 := Tryz.zeroValue3
  i3 := by kernel_rfl
  t4 := Tryz.underlying4
  a4 := Tryz.isAgg4
  z4 := Tryz.sizeOf4
  v4 := Tryz.zeroValue4
  i4 := by kernel_rfl
  t5 := Tryz.underlying5
  a5 := Tryz.isAgg5
  z5 := Tryz.sizeOf5
  v5 := Tryz.zeroValue5
  i5 := by kernel_rfl
  t9 := Tryz.underlying9
  a9 := Tryz.isAgg9
  z9 := Tryz.sizeOf9
  v9 := Tryz.zeroValue9
  i9 := by kernel_rfl
  t20 := Tryz.underlying20
  a20 := Tryz.isAgg20
  z20 := Tryz.sizeOf20
  v20 := Tryz.zeroValue20
  i20 := by kernel_rfl
  t22 := Tryz.underlying103
  a22 := Tryz.isAgg103
  z22 := Tryz.sizeOf103
  v22 := Tryz.zeroValue103
  i22 := by kernel_rfl
  t24 := Tryz.underlying112
  a24 := Tryz.isAgg112
  z24 := Tryz.sizeOf112
  v24 := Tryz.zeroValue112
  i24 := by kernel_rfl
  t34 := Tryz.underlying127
  a34 := Tryz.isAgg127
  z34 := Tryz.sizeOf127
  v34 := Tryz.zeroValue127
  i34 := by kernel_rfl
  c34 := by kernel_rfl
  t36 := Tryz.underlying95
  a36 := Tryz.isAgg95
  z36 := Tryz.sizeOf95
  v36 := Tryz.zeroValue95
  i36 := by kernel_rfl
  t37 := Tryz.underlying71
  a37 := Tryz.isAgg71
  z37 := Tryz.sizeOf71
  v37 := Tryz.zeroValue71
  i37 := by kernel_rfl
  t39 := Tryz.underlying129
  a39 := Tryz.isAgg129
  z39 := Tryz.sizeOf129
  v39 := Tryz.zeroValue129
  i39 := by kernel_rfl
  t44 := Tryz.underlying133
  a44 := Tryz.isAgg133
  z44 := Tryz.sizeOf133
  v44 := Tryz.zeroValue133
  i44 := by kernel_rfl
  t47 := Tryz.underlying119
  a47 := Tryz.isAgg119
  z47 := Tryz.sizeOf119
  v47 := Tryz.zeroValue119
  i47 := by kernel_rfl
  t48 := Tryz.underlying135
  a48 := Tryz.isAgg135
  z48 := Tryz.sizeOf135
  v48 := Tryz.zeroValue135
  i48 := by kernel_rfl
  t50 := Tryz.underlying137
  a50 := Tryz.isAgg137
  z50 := Tryz.sizeOf137
  v50 := Tryz.zeroValue137
  i50 := by kernel_rfl
  t52 := Tryz.underlying139
  a52 := Tryz.isAgg139
  z52 := Tryz.sizeOf139
  v52 := Tryz.zeroValue139
  i52 := by kernel_rfl
  t55 := Tryz.underlying142
  a55 := Tryz.isAgg142
  z55 := Tryz.sizeOf142
  v55 := Tryz.zeroValue142
  i55 := by kernel_rfl
  t59 := Tryz.underlying145
  a59 := Tryz.isAgg145
  z59 := Tryz.sizeOf145
  v59 := Tryz.zeroValue145
  i59 := by kernel_rfl
  t60 := Tryz.underlying116
  a60 := Tryz.isAgg116
  z60 := Tryz.sizeOf116
  v60 := Tryz.zeroValue116
  i60 := by kernel_rfl
  t61 := Tryz.underlying146
  a61 := Tryz.isAgg146
  z61 := Tryz.sizeOf146
  t65 := Tryz.underlying149
  a65 := Tryz.isAgg149
  z65 := Tryz.sizeOf149
  v65 := Tryz.zeroValue149
  i65 := by kernel_rfl
  t66 := Tryz.underlying150
  a66 := Tryz.isAgg150
  z66 := Tryz.sizeOf150
  v66 := Tryz.zeroValue150
  i66 := by kernel_rfl
  t67 := Tryz.underlying83
  a67 := Tryz.isAgg83
  z67 := Tryz.sizeOf83
  v67 := Tryz.zeroValue83
  i67 := by kernel_rfl
  g0 := by kernel_rfl
  m0 := by kernel_rfl
  g1 := by kernel_rfl
  m1 := by kernel_rfl
  g2 := by kernel_rfl
  m2 := by kernel_rfl
  g3 := by kernel_rfl
  m3 := by kernel_rfl
  g4 := by kernel_rfl
  m4 := by kernel_rfl }
/-- The library's variable ErrSyntax holds an error, or nil. -/
structure ErrAt (w : World) : Prop where
  all : ∃ ev, w.cell? ⟨7, 0, none⟩ = some ev ∧ (ev = .nilIface ∨ ∃ te pe, ev = .iface te pe)
theorem ErrAt.below {w w' : World} (h : ErrAt w) (hb : Below w.heap.size w w') : ErrAt w' := by
  obtain ⟨ev, h1, h2⟩ := h
  have hlt : 7 < w.heap.size := by
    by_cases hlt : 7 < w.heap.size
    · exact hlt
    · simp [World.cell?, Array.getElem?_eq_none (Nat.le_of_not_lt hlt)] at h1
  exact ⟨ev, (hb.cell (p := ⟨7, 0, none⟩) hlt).trans h1, h2⟩
set_option maxHeartbeats 1000000 in
set_option maxRecDepth 100000 in
theorem parse_empty (base : Int) (hb : base = 10 ∨ base = 16) (w : World) : Calls Tryz.prog 114 #[.string ⟨#[]⟩, .int .i64 base, .int .i64 32] w fun e w' => e = .returned (outP none) ∧ Below w.heap.size w w' := by
  go_enter Tryz.func114, Tryz.ntmps114
  go_wp2
  go_ret2
  exact ⟨rfl, Below.refl _ _⟩
/-- What the digits make, if there are some. -/
def numR (t : ByteArray) (base : Int) : Option Int := if t.size = 0 then none else numTo t base t.size
theorem parse_any (t : ByteArray) (base : Int) (hb : base = 10 ∨ base = 16) (hsz : t.size ≤ 7) (w : World) :
    Calls Tryz.prog 114 #[.string t, .int .i64 base, .int .i64 32] w fun e w' => e = .returned (outP (numR t base)) ∧ Below w.heap.size w w' := by
  unfold numR
  by_cases h : t.size = 0
  · rw [if_pos h]
    obtain rfl : t = ⟨#[]⟩ := by
      obtain ⟨a⟩ := t
      have : a = #[] := Array.eq_empty_of_size_eq_zero h
      rw [this]
    exact parse_empty base hb w
  · rw [if_neg h]
    exact parse_in t base hb h hsz _ rfl w
theorem to_error (t : ByteArray) (base : Int) (hsz : t.size ≤ 7) (w : World) (hE : ErrAt w) :
    Calls Tryz.prog 115 #[.string ⟨#[80, 97, 114, 115, 101, 85, 105, 110, 116]⟩, .string t, .int .i64 base, .int .i64 32, .iface 127 (.int .i64 2)] w fun e w' => ∃ N, e = .returned (.iface 129 (.pointer (some ⟨N, 0, none⟩))) ∧ Below w.heap.size w w' := by
  obtain ⟨ev, h1, h2⟩ := hE
  refine (AnyPu.strconv_toError_syntax laysTE ⟨#[80, 97, 114, 115, 101, 85, 105, 110, 116]⟩ t base 32 ev w (by omega) h1 h2).mono ?_
  rintro e w' ⟨N, he, _, _, hb⟩
  exact ⟨N, he, hb⟩
/-- What the public one hands back. -/
def IsOut (r : Option Int) (v : Value) : Prop := (∃ n, r = some n ∧ v = .tuple #[.int .u64 n, .nilIface]) ∨ (r = none ∧ ∃ N, v = .tuple #[.int .u64 0, .iface 129 (.pointer (some ⟨N, 0, none⟩))])
set_option maxHeartbeats 1000000 in
set_option maxRecDepth 100000 in
theorem parse_uint (t : ByteArray) (base : Int) (hb : base = 10 ∨ base = 16) (hsz : t.size ≤ 7) (w : World) (hE : ErrAt w) :
    Calls Tryz.prog 113 #[.string t, .int .i64 base, .int .i64 32] w fun e w' => ∃ v, e = .returned v ∧ IsOut (numR t base) v ∧ Below w.heap.size w w' := by
  have hp := fun w => parse_any t base hb hsz w
  have hT : Hid (∀ w, ErrAt w → _) := fun w h => to_error t base hsz w h
  have HE : Hid _ := hE
  clear hE
  cases hr : numR t base with
  | some n =>
    rw [hr] at hp
    have HP : Hid (∀ w, Calls Tryz.prog 114 #[.string t, .int .i64 base, .int .i64 32] w fun e w' => e = .returned (.tuple #[.int .u64 n, .nilIface]) ∧ Below w.heap.size w w') := hp
    clear hp hr hb hsz
    go_enter Tryz.func113, Tryz.ntmps113
    go_wp2_with (go_at_call 114; refine (HP.out _).mono ?_; rintro e w1 ⟨rfl, hb1⟩)
    go_wp2
    go_ret2
    exact ⟨_, rfl, .inl ⟨n, rfl, rfl⟩, hb1⟩
  | none =>
    rw [hr] at hp
    have HP : Hid (∀ w, Calls Tryz.prog 114 #[.string t, .int .i64 base, .int .i64 32] w fun e w' => e = .returned (.tuple #[.int .u64 0, .iface 127 (.int .i64 2)]) ∧ Below w.heap.size w w') := hp
    clear hp hr hb hsz
    go_enter Tryz.func113, Tryz.ntmps113
    go_wp2_with (go_at_call 114; refine (HP.out _).mono ?_)
    rintro e w1 ⟨rfl, hb1⟩
    have HB1 : Hid _ := hb1
    clear hb1
    go_wp2_with (go_at_call 115; refine (hT.out _ (HE.out.below HB1.out)).mono ?_)
    rintro e w2 ⟨N, rfl, hb2⟩
    have HB2 : Hid _ := HB1.out.trans (hb2.mono HB1.out.size)
    clear hb2
    go_wp2
    go_ret2
    exact ⟨_, rfl, .inr ⟨rfl, N, rfl⟩, HB2.out⟩
end Go.Proofs.YtehdpkigfjjbaaaGreatDoor.parseu
