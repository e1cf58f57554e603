/-
  The library's public strconv.ParseUint: as the inner one; its errors are the library's own, made anew.
-/
import Derived.Test.YtdojkaboejndiaaDoorParseU
namespace Go.Proofs.YtdojkaboejndiaaDoor.parseu
open Go.RowKit Go.Shelf
open refs (numTo)
set_option linter.unusedVariables false
def laysTE_ren : Go.Shelf.Ren := ⟨fun | 17 => 81 | 21 => 86 | 22 => 87 | 23 => 88 | 24 => 89 | 25 => 90 | 27 => 92 | 26 => 91 | 28 => 93 | 29 => 94 | 30 => 95 | 31 => 96 | 32 => 97 | 33 => 98 | 35 => 100 | 34 => 99 | 36 => 101 | 37 => 102 | 38 => 103 | 39 => 104 | 40 => 105 | n => n, fun | 9 => 9 | 3 => 3 | 24 => 70 | 34 => 107 | 4 => 4 | 39 => 109 | 44 => 113 | 37 => 22 | 0 => 0 | 47 => 89 | 50 => 117 | 48 => 115 | 2 => 2 | 52 => 119 | 22 => 95 | 5 => 5 | 55 => 122 | 59 => 125 | 60 => 104 | 20 => 20 | 61 => 126 | 36 => 74 | 65 => 129 | 66 => 130 | 67 => 73 | n => n, fun | 0 => 7 | 1 => 8 | 2 => 9 | 3 => 10 | 4 => 11 | n => n⟩
theorem laysTE : Go.Proofs.LaysPu.n17 Tryd.prog laysTE_ren := {
  mixed := by kernel_rfl
  f17 := Tryd.func81.trans (congrArg some (by kernel_rfl))
  f21 := Tryd.func86.trans (congrArg some (by kernel_rfl))
  f22 := Tryd.func87.trans (congrArg some (by kernel_rfl))
  f23 := Tryd.func88.trans (congrArg some (by kernel_rfl))
  f24 := Tryd.func89.trans (congrArg some (by kernel_rfl))
  f25 := Tryd.func90.trans (congrArg some (by kernel_rfl))
  f26 := Tryd.func91.trans (congrArg some (by kernel_rfl))
  f27 := Tryd.func92.trans (congrArg some (by kernel_rfl))
  f28 := Tryd.func93.trans (congrArg some (by kernel_rfl))
  f29 := Tryd.func94.trans (congrArg some (by kernel_rfl))
  f30 := Tryd.func95.trans (congrArg some (by kernel_rfl))
  f31 := Tryd.func96.trans (congrArg some (by kernel_rfl))
  f32 := Tryd.func97.trans (congrArg some (by kernel_rfl))
  f33 := Tryd.func98.trans (congrArg some (by kernel_rfl))
  f34 := Tryd.func99.trans (congrArg some (by kernel_rfl))
  f35 := Tryd.func100.trans (congrArg some (by kernel_rfl))
  f36 := Tryd.func101.trans (congrArg some (by kernel_rfl))
  f37 := Tryd.func102.trans (congrArg some (by kernel_rfl))
  f38 := Tryd.func103.trans (congrArg some (by kernel_rfl))
  f39 := Tryd.func104.trans (congrArg some (by kernel_rfl))
  f40 := Tryd.func105.trans (congrArg some (by kernel_rfl))
  t0 := Tryd.underlying0
  a0 := Tryd.isAgg0
  z0 := Tryd.sizeOf0
  v0 := Tryd.zeroValue0
  i0 := by kernel_rfl
  t2 := Tryd.underlying2
  a2 := Tryd.isAgg2
  z2 := Tryd.sizeOf2
  v2 := Tryd.zeroValue2
  i2 := by kernel_rfl
  t3 := Tryd.underlying3
  a3 := Tryd.isAgg3
  z3 := Tryd.sizeOf3
  v3 := Tryd.zeroValue3
  i3 := by kernel_rfl
  t4 := Tryd.underlying4
  a4 := Tryd.isAgg4
  z4 := Tryd.sizeOf4
  v4 := Tryd.zeroValue4
  i4 := by kernel_rfl
  t5 := Tryd.underlying5
  a5 := Tryd.isAgg5
  z5 := Tryd.sizeOf5
  v5 := Tryd.zeroValue5
  i5 := by kernel_rfl
  t9 := Tryd.underlying9
  a9 := Tryd.isAgg9
  z9 := Tryd.sizeOf9
  v9 := Tryd.zeroValue9
  i9 := by kernel_rfl
  t20 := Tryd.underlying20
  a20 := Tryd.isAgg20
  z20 := Tryd.sizeOf20
  v20 := Tryd.zeroValue20
  i20 := by kernel_rfl
  t22 := Tryd.underlying95
  a22 := Tryd.isAgg95
  z22 := Tryd.sizeOf95
  v22 := Tryd.zeroValue95
  i22 := by kernel_rfl
  t24 := Tryd.underlying70
  a24 := Tryd.isAgg70
  z24 := Tryd.sizeOf70
  v24 := Tryd.zeroValue70
  i24 := by kernel_rfl
  t34 := Tryd.underlying107
  a34 := Tryd.isAgg107
  z34 := Tryd.sizeOf107
  v34 := Tryd.zeroValue107
  i34 := by kernel_rfl
  c34 := by kernel_rfl
  t36 := Tryd.underlying74
  a36 := Tryd.isAgg74
  z36 := Tryd.sizeOf74
  v36 := Tryd.zeroValue74
  i36 := by kernel_rfl
  t37 := Tryd.underlying22
  a37 := Tryd.isAgg22
  z37 := Tryd.sizeOf22
  v37 := Tryd.zeroValue22
  i37 := by kernel_rfl
  t39 := Tryd.underlying109
  a39 := Tryd.isAgg109
  z39 := Tryd.sizeOf109
  v39 := Tryd.zeroValue109
  i39 := by kernel_rfl
  t44 := Tryd.underlying113
  a44 := Tryd.isAgg113
  z44 := Tryd.sizeOf113
  v44 := Tryd.zeroValue113
  i44 := by kernel_rfl
  t47 := Tryd.underlying89
  a47 := Tryd.isAgg89
  z47 := Tryd.sizeOf89
  v47 := Tryd.zeroValue89
  i47 := by kernel_rfl
  t48 := Tryd.underlying115
  a48 := Tryd.isAgg115
  z48 := Tryd.sizeOf115
  v48 := Tryd.zeroValue115
  i48 := by kernel_rfl
  t50 := Tryd.underlying117
  a50 := Tryd.isAgg117
  z50 := Tryd.sizeOf117
  v50 := Tryd.zeroValue117
  i50 := by kernel_rfl
  t52 := Tryd.underlying119
  a52 := Tryd.isAgg119
  z52 := Tryd.sizeOf119
  v52 := Tryd.zeroValue119
  i52 := by kernel_rfl
  t55 := Tryd.underlying122
  a55 := Tryd.isAgg122
  z55 := Tryd.sizeOf122
  v55 := Tryd.zeroValue122
  i55 := by kernel_rfl
  t59 := Tryd.underlying125
  a59 := Tryd.isAgg125
  z59 := Tryd.sizeOf125
  v59 := Tryd.zeroValue125
  i59 := by kernel_rfl
  t60 := Tryd.underlying104
  a60 := Tryd.isAgg104
  z60 := Tryd.sizeOf104
  v60 := Tryd.zeroValue104
  i60 := by kernel_rfl
  t61 := Tryd.underlying126
  a61 := Tryd.isAgg126
  z61 := Tryd.sizeOf126
  t65 := Tryd.underlying129
  a65 := Tryd.isAgg129
  z65 := Tryd.sizeOf129
  v65 := Tryd.zeroValue129
  i65 := by kernel_rfl
  t66 := Tryd.underlying130
  a66 := Tryd.isAgg130
  z66 := Tryd.sizeOf130
  v66 := Tryd.zeroValue130
  i66 := by kernel_rfl
  t67 := Tryd.underlying73
  a67 := Tryd.isAgg73
  z67 := Tryd.sizeOf73
  v67 := Tryd.zeroValue73
  i67 := by kernel_rfl
  g0 := by kernel_rfl
  m0 := by kernel_rfl
  g1 := by kernel_rfl
  m1 := by kernel_rfl
  g2 := by kernel_rfl
  m2 := by kernel_rfl
  g3 := by kernel_rfl
  m3 := by kernel_rfl
  g4 := by kernel_rfl
  m4 := by kernel_rfl }
/-- The library's variable ErrSyntax holds an error, or nil. -/
structure ErrAt (w : World) : Prop where
  all : ∃ ev, w.cell? ⟨7, 0, none⟩ = some ev ∧ (ev = .nilIface ∨ ∃ te pe, ev = .iface te pe)
theorem ErrAt.below {w w' : World} (h : ErrAt w) (hb : Below w.heap.size w w') : ErrAt w' := by
  obtain ⟨ev, h1, h2⟩ := h
  have hlt : 7 < w.heap.size := by
    by_cases hlt : 7 < w.heap.size
    · exact hlt
    · simp [World.cell?, Array.getElem?_eq_none (Nat.le_of_not_lt hlt)] at h1
  exact ⟨ev, (hb.cell (p := ⟨7, 0, none⟩) hlt).trans h1, h2⟩
set_option maxHeartbeats 1000000 in
set_option maxRecDepth 100000 in
theorem parse_empty (base : Int) (hb : base = 10 ∨ base = 16) (w : World) : Calls Tryd.prog 80 #[.string ⟨#[]⟩, .int .i64 base, .int .i64 32] w fun e w' => e = .returned (outP none) ∧ Below w.heap.size w w' := by
  go_enter Tryd.func80, Tryd.ntmps80
  go_wp2
  go_ret2
  exact ⟨rfl, Below.refl _ _⟩
/-- What the digits make, if there are some. -/
def numR (t : ByteArray) (base : Int) : Option Int := if t.size = 0 then none else numTo t base t.size
theorem parse_any (t : ByteArray) (base : Int) (hb : base = 10 ∨ base = 16) (hsz : t.size ≤ 7) (w : World) :
    Calls Tryd.prog 80 #[.string t, .int .i64 base, .int .i64 32] w fun e w' => e = .returned (outP (numR t base)) ∧ Below w.heap.size w w' := by
  unfold numR
  by_cases h : t.size = 0
  · rw [if_pos h]
    obtain rfl : t = ⟨#[]⟩ := by
      obtain ⟨a⟩ := t
      have : a = #[] := Array.eq_empty_of_size_eq_zero h
      rw [this]
    exact parse_empty base hb w
  · rw [if_neg h]
    exact parse_in t base hb h hsz _ rfl w
theorem to_error (t : ByteArray) (base : Int) (hsz : t.size ≤ 7) (w : World) (hE : ErrAt w) :
    Calls Tryd.prog 81 #[.string ⟨#[80, 97, 114, 115, 101, 85, 105, 110, 116]⟩, .string t, .int .i64 base, .int .i64 32, .iface 107 (.int .i64 2)] w fun e w' => ∃ N, e = .returned (.iface 109 (.pointer (some ⟨N, 0, none⟩))) ∧ Below w.heap.size w w' := by
  obtain ⟨ev, h1, h2⟩ := hE
  refine (AnyPu.strconv_toError_syntax laysTE ⟨#[80, 97, 114, 115, 101, 85, 105, 110, 116]⟩ t base 32 ev w (by omega) h1 h2).mono ?_
  rintro e w' ⟨N, he, _, _, hb⟩
  exact ⟨N, he, hb⟩
/-- What the public one hands back. -/
def IsOut (r : Option Int) (v : Value) : Prop := (∃ n, r = some n ∧ v = .tuple #[.int .u64 n, .nilIface]) ∨ (r = none ∧ ∃ N, v = .tuple #[.int .u64 0, .iface 109 (.pointer (some ⟨N, 0, none⟩))])
set_option maxHeartbeats 1000000 in
set_option maxRecDepth 100000 in
theorem parse_uint (t : ByteArray) (base : Int) (hb : base = 10 ∨ base = 16) (hsz : t.size ≤ 7) (w : World) (hE : ErrAt w) :
    Calls Tryd.prog 73 #[.string t, .int .i64 base, .int .i64 32] w fun e w' => ∃ v, e = .returned v ∧ IsOut (numR t base) v ∧ Below w.heap.size w w' := by
  have hp := fun w => parse_any t base hb hsz w
  have hT : Hid (∀ w, ErrAt w → _) := fun w h => to_error t base hsz w h
  have HE : Hid _ := hE
  clear hE
  cases hr : numR t base with
  | some n =>
    rw [hr] at hp
    have HP : Hid (∀ w, Calls Tryd.prog 80 #[.string t, .int .i64 base, .int .i64 32] w fun e w' => e = .returned (.tuple #[.int .u64 n, .nilIface]) ∧ Below w.heap.size w w') := hp
    clear hp hr hb hsz
    go_enter Tryd.func73, Tryd.ntmps73
    go_wp2_with (go_at_call 80; refine (HP.out _).mono ?_; rintro e w1 ⟨rfl, hb1⟩)
    go_wp2
    go_ret2
    exact ⟨_, rfl, .inl ⟨n, rfl, rfl⟩, hb1⟩
  | none =>
    rw [hr] at hp
    have HP : Hid (∀ w, Calls Tryd.prog 80 #[.string t, .int .i64 base, .int .i64 32] w fun e w' => e = .returned (.tuple #[.int .u64 0, .iface 107 (.int .i64 2)]) ∧ Below w.heap.size w w') := hp
    clear hp hr hb hsz
    go_enter Tryd.func73, Tryd.ntmps73
    go_wp2_with (go_at_call 80; refine (HP.out _).mono ?_)
    rintro e w1 ⟨rfl, hb1⟩
    have HB1 : Hid _ := hb1
    clear hb1
    go_wp2_with (go_at_call 81; refine (hT.out _ (HE.out.below HB1.out)).mono ?_)
    rintro e w2 ⟨N, rfl, hb2⟩
    have HB2 : Hid _ := HB1.out.trans (hb2.mono HB1.out.size)
    clear hb2
    go_wp2
    go_ret2
    exact ⟨_, rfl, .inr ⟨rfl, N, rfl⟩, HB2.out⟩
end Go.Proofs.YtdojkaboejndiaaDoor.parseu
