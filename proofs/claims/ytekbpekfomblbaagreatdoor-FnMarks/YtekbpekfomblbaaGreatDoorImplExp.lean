/-
  What the program's expandRefs and Expand answer: the same as the specification's.
-/
import Derived.Test.YtekbpekfomblbaaGreatDoorImplRefs
import Derived.Test.YtekbpekfomblbaaGreatDoorRef4
import Derived.Test.YtekbpekfomblbaaGreatDoorBuilders
import Derived.Shelf.Strings.Cut
namespace Go.Proofs.YtekbpekfomblbaaGreatDoor.refs
open Go.ChangeShapes Go.WideShapes Go.ChangeAt Go.RowKit Go.Shelf
open escs (byteAt)
open pairs (Pair at0 PairsAt TableAt)
open tmaps (MapAt Meaning putM delM)
open builders (IsB)
set_option linter.unusedVariables false
/-! ### Cutting at one byte -/
def laysCut_ren : Go.Shelf.Ren := ⟨fun | 145 => 61 | 220 => 79 | 219 => 91 | 217 => 95 | 225 => 96 | 224 => 97 | 267 => 98 | 266 => 104 | 314 => 105 | n => n, fun | 9 => 9 | 4 => 4 | 59 => 83 | 3 => 3 | 5 => 5 | 46 => 94 | 146 => 119 | 51 => 118 | n => n, fun | 1 => 6 | n => n⟩
theorem laysCut : Go.Proofs.Lays.n145 Tryz.prog laysCut_ren := {
  mixed := by kernel_rfl
  f145 := Tryz.func61.trans (congrArg some (by kernel_rfl))
  f217 := Tryz.func95.trans (congrArg some (by kernel_rfl))
  f219 := Tryz.func91.trans (congrArg some (by kernel_rfl))
  f220 := Tryz.func79.trans (congrArg some (by kernel_rfl))
  f224 := Tryz.func97.trans (congrArg some (by kernel_rfl))
  f225 := Tryz.func96.trans (congrArg some (by kernel_rfl))
  f266 := Tryz.func104.trans (congrArg some (by kernel_rfl))
  f267 := Tryz.func98.trans (congrArg some (by kernel_rfl))
  f314 := Tryz.func105.trans (congrArg some (by kernel_rfl))
  t3 := Tryz.underlying3
  a3 := Tryz.isAgg3
  z3 := Tryz.sizeOf3
  v3 := Tryz.zeroValue3
  t4 := Tryz.underlying4
  a4 := Tryz.isAgg4
  z4 := Tryz.sizeOf4
  v4 := Tryz.zeroValue4
  t5 := Tryz.underlying5
  a5 := Tryz.isAgg5
  z5 := Tryz.sizeOf5
  v5 := Tryz.zeroValue5
  t9 := Tryz.underlying9
  a9 := Tryz.isAgg9
  z9 := Tryz.sizeOf9
  v9 := Tryz.zeroValue9
  t46 := Tryz.underlying94
  a46 := Tryz.isAgg94
  z46 := Tryz.sizeOf94
  v46 := Tryz.zeroValue94
  t51 := Tryz.underlying118
  a51 := Tryz.isAgg118
  z51 := Tryz.sizeOf118
  v51 := Tryz.zeroValue118
  t59 := Tryz.underlying83
  a59 := Tryz.isAgg83
  z59 := Tryz.sizeOf83
  v59 := Tryz.zeroValue83
  t146 := Tryz.underlying119
  a146 := Tryz.isAgg119
  z146 := Tryz.sizeOf119
  v146 := Tryz.zeroValue119
  g1 := by kernel_rfl }
theorem occ_one (s : ByteArray) (c : UInt8) (i : Nat) : Lib.occAt s.data.toList [c] i = decide (i < s.size ∧ byteAt s i = c.toNat) := by
  unfold Lib.occAt
  by_cases h : i < s.size
  · obtain ⟨h', e⟩ := list_get s i h
    rw [List.drop_eq_getElem_cons h']
    simp only [List.isPrefixOf, Bool.and_true]
    rw [← e, Bool.eq_iff_iff]
    simp only [beq_iff_eq, decide_eq_true_eq]
    exact ⟨fun e => ⟨h, by rw [← e]⟩, fun e => (u8_eq e.2).symm⟩
  · rw [decide_eq_false (fun e => h e.1), List.drop_eq_nil_of_le (by rw [Array.length_toList]; exact Nat.le_of_not_lt h)]
    rfl
theorem index_hit {s : ByteArray} {c : UInt8} {i : Nat} (h : First s c.toNat 0 i) : Lib.indexB s ⟨#[c]⟩ = i := by
  refine Lib.index_first (by rw [Array.length_toList]; exact Nat.le_of_lt h.lt) ?_ (fun j hj => ?_)
  · show Lib.occAt s.data.toList [c] i = true
    rw [occ_one]; exact decide_eq_true ⟨h.lt, h.hit⟩
  · show Lib.occAt s.data.toList [c] j = false
    rw [occ_one]; exact decide_eq_false (fun e => h.no j (Nat.zero_le _) hj e.2)
theorem index_miss {s : ByteArray} {c : UInt8} (h : NoneAt s c.toNat 0) : Lib.indexB s ⟨#[c]⟩ = -1 := by
  rcases Lib.index_spec s.data.toList [c] with ⟨h1, _⟩ | ⟨i, h1, h2, h3, _⟩
  · exact h1
  · rw [occ_one] at h3
    have := of_decide_eq_true h3
    exact absurd this.2 (h i (Nat.zero_le _) this.1)
theorem below_drewN (w : World) (n : Nat) : Below w.heap.size w (w.drewN n) := by
  induction n with
  | zero => exact Below.refl _ _
  | succ n ih => exact ih.drew
theorem cut_hit (s : ByteArray) (c : UInt8) (i : Nat) (w : World) (hs : s.size ≤ 1048576) (hm : frames.MaxAt w) (h : First s c.toNat 0 i) :
    Calls Tryz.prog 61 #[.string s, .string ⟨#[c]⟩] w fun e w' => e = .returned (.tuple #[.string (s.extract 0 i), .string (s.extract (i + 1) s.size), .bool true]) ∧ Below w.heap.size w w' := by
  obtain ⟨m, hm⟩ := hm
  refine (Any.strings_Cut laysCut s ⟨#[c]⟩ m w (by omega) hm).mono ?_
  rintro e w' ⟨he, n, hw⟩
  obtain ⟨e1, e2, e3⟩ := Lib.cutB_hit s ⟨#[c]⟩ i (index_hit h)
  rw [e1, e2, e3] at he
  exact ⟨he, hw ▸ below_drewN w n⟩
theorem cut_miss (s : ByteArray) (c : UInt8) (w : World) (hs : s.size ≤ 1048576) (hm : frames.MaxAt w) (h : NoneAt s c.toNat 0) :
    Calls Tryz.prog 61 #[.string s, .string ⟨#[c]⟩] w fun e w' => e = .returned (.tuple #[.string s, .string ⟨#[]⟩, .bool false]) ∧ Below w.heap.size w w' := by
  obtain ⟨m, hm⟩ := hm
  refine (Any.strings_Cut laysCut s ⟨#[c]⟩ m w (by omega) hm).mono ?_
  rintro e w' ⟨he, n, hw⟩
  obtain ⟨e1, e2, e3⟩ := Lib.cutB_miss s ⟨#[c]⟩ (index_miss h)
  rw [e1, e2, e3] at he
  exact ⟨he, hw ▸ below_drewN w n⟩
/-! ### From mark to mark -/
/-- What a round of expandRefs keeps. -/
structure ERel (s : ByteArray) (L : List Pair) (w wr : World) (p : Nat) (out : ByteArray) : Prop where
  own : IsB wr w.heap.size w.heap.size out
  bel : Below w.heap.size w wr
  to_ : To s L p out
  len : out.size ≤ p * 1048577
def expR (s : ByteArray) (L : List Pair) : ByteArray × Bool := match expE s L with | some x => (x, true) | none => (⟨#[]⟩, false)
theorem expR_some {s x : ByteArray} {L : List Pair} (h : expE s L = some x) : expR s L = (x, true) := by unfold expR; rw [h]
theorem expR_none {s : ByteArray} {L : List Pair} (h : expE s L = none) : expR s L = (⟨#[]⟩, false) := by unfold expR; rw [h]
theorem val_size (s : ByteArray) (L : List Pair) (hL : ∀ i, i < L.length → (at0 L i).2.size ≤ 1048576) : (valR s L).1.size ≤ 1048576 := by
  unfold valR
  split
  · exact one_size s L hL
  · exact Nat.zero_le _
theorem val_ok {s x : ByteArray} {L : List Pair} (h : valR s L = (x, true)) : oneR s L = (x, true) := by
  unfold valR at h
  split at h
  · exact h
  · cases h
theorem val_bad {s x : ByteArray} {L : List Pair} (h : valR s L = (x, false)) : (oneR s L).2 = false := by
  unfold valR at h
  split at h
  · rename_i h2; rw [h] at h2; cases h2
  · rename_i h2; simpa using h2
theorem isB_below {w w' : World} {B b : Nat} {o : ByteArray} (h : IsB w B b o) (hb : Below w.heap.size w w') : IsB w' B b o := by
  have hg : w.grownBy w' none := ⟨hb.os, hb.tape, hb.output, hb.size, fun k hk _ => hb.block k hk⟩
  rcases h with h | h
  · have hl := h.lt
    obtain ⟨h1, v, h2, h3, h4⟩ := h
    exact .inl ⟨h1, v, (hb.block b hl).trans h2, h3.kept hg (Classical.em _), h4⟩
  · have hl := h.lt
    obtain ⟨h1, v, h2, h3, h4⟩ := h
    exact .inr ⟨h1, v, (hb.block b hl).trans h2, h3.kept hg (Classical.em _), h4⟩
theorem isB_lt {w : World} {B b : Nat} {o : ByteArray} (h : IsB w B b o) : b < w.heap.size := by
  rcases h with h | h
  · exact h.lt
  · exact h.lt
/-- The builder and what has been done so far, behind a call that leaves all as it was. -/
structure BRel (w wr : World) (out : ByteArray) : Prop where
  own : IsB wr w.heap.size w.heap.size out
  bel : Below w.heap.size w wr
theorem BRel.below {w wr w2 : World} {out : ByteArray} (h : BRel w wr out) (hb : Below wr.heap.size wr w2) : BRel w w2 out := ⟨isB_below h.own hb, h.bel.trans (hb.mono h.bel.size)⟩
theorem BRel.write {w wr : World} {out x : ByteArray} (h : BRel w wr out) (hl : out.size + x.size ≤ 140737488355328) : Calls Tryz.prog 99 #[.pointer (some ⟨w.heap.size, 0, none⟩), .string x] wr fun e w' => e = .returned (.tuple #[.int .i64 x.size, .nilIface]) ∧ BRel w w' (out ++ x) := by
  refine (builders.write_str w.heap.size w.heap.size out x wr h.own hl h.bel.size).mono ?_
  rintro e w' ⟨he, h1, h2, _⟩
  exact ⟨he, h1, h.bel.trans h2⟩
theorem BRel.done {w wr : World} {out : ByteArray} (h : BRel w wr out) : Calls Tryz.prog 100 #[.pointer (some ⟨w.heap.size, 0, none⟩)] wr fun e w' => e = .returned (.string out) ∧ Below w.heap.size w w' := by
  refine (builders.to_str w.heap.size w.heap.size out wr h.own h.bel.size).mono ?_
  rintro e w' ⟨he, h1, h2⟩
  exact ⟨he, h.bel.trans h2⟩
theorem sub_size (s : ByteArray) (i j : Nat) (h : s.size ≤ 1500) : (s.extract i j).size ≤ 1500 := by rw [ByteArray.size_extract]; omega
def strLen : Value → Nat
  | .string x => x.size
  | _ => 0
theorem ret_exp {x : ByteArray} {b : Bool} {s : ByteArray} {L : List Pair} (h : expR s L = (x, b)) : Ending.returned (.tuple #[.string x, .bool b]) = .returned (sb (expR s L)) := ret_sb h
set_option maxRecDepth 100000 in
set_option maxHeartbeats 1000000 in
theorem impl_expandRefs (s : ByteArray) (L : List Pair) (mb n : Nat) (w : World) (hs : s.size ≤ 1500) (hv : ∀ i, i < L.length → (at0 L i).2.size ≤ 1048576) (hT : XTabs w) (hE : entsB L = true) (hM : MapAt Tryz.prog w mb n (entM L)) :
    Calls Tryz.prog 92 #[.string s, .map (some mb)] w fun e w' => e = .returned (sb (expR s L)) ∧ Below w.heap.size w w' := by
  have HT : Hid (XTabs w) := hT
  have HRV : Hid (∀ (x : ByteArray) (wr : World), x.size ≤ 1500 → Below w.heap.size w wr → _) := fun x wr hx hb => impl_refVal x L mb n wr (by unfold maxLen; omega) (hT.below hb) hE (hM.below hb)
  have HV : Hid _ := hv
  clear hT hE hM hv
  go_enter Tryz.func92, Tryz.ntmps92
  go_wp2
  go_loopw [0] (fun t wr => ∃ (p : Nat) (out r : ByteArray), p ≤ s.size ∧ t = .string r ∧ r.size ≤ 1500 ∧ Hid (r = s.extract p s.size) ∧ out.size ≤ p * 1048577 ∧ Hid (To s L p out) ∧ Hid (BRel w wr out)) (fun t _ => strLen t)
  case atStart => exact ⟨0, ⟨#[]⟩, s, Nat.zero_le _, rfl, hs, (by show s = _; simp), Nat.zero_le _, to_start s L, ⟨builders.made w _ (Nat.le_refl _), (Below.refl _ _).alloc (Nat.le_refl _) _⟩⟩
  case round =>
    obtain ⟨p, out, r, hp, rfl, hrs, her, hz, hto, hR⟩ := hrel
    have hmx := fun (wr : World) (h : Below w.heap.size w wr) => HT.out.max.below h
    rcases first_any s 38 p hp with ⟨i, hi⟩ | hn
    · have hi1 := hi.from_
      have hi2 := hi.lt
      have hc := cut_hit r 38 (i - p) wr (by omega) (hmx _ hR.out.bel) (by rw [her.out]; exact hi.tail)
      have e1 : r.extract 0 (i - p) = s.extract p i := by rw [her.out, extract_tail s p i hi1 (by omega)]
      have e2 : r.extract (i - p + 1) r.size = s.extract (i + 1) s.size := by rw [her.out, extract_rest s p i hi1 hi2]
      rw [e1, e2] at hc
      have ha := sub_size s p i hs
      have hr := sub_size s (i + 1) s.size hs
      clear e1 e2
      rcases first_any s 59 (i + 1) (by omega) with ⟨k, hk⟩ | hn
      · have hk1 := hk.from_
        have hk2 := hk.lt
        have hd := fun wr h => cut_hit (s.extract (i + 1) s.size) 59 (k - (i + 1)) wr (by omega) (hmx wr h) hk.tail
        rw [extract_tail s (i + 1) k hk1 (by omega), extract_rest s (i + 1) k hk1 hk2] at hd
        have hv := fun wr h => HRV.out (s.extract (i + 1) k) wr (sub_size _ _ _ hs) h
        have hbad := fun x (h : valR (s.extract (i + 1) k) L = (x, false)) => hto.out.bad hi hk (val_bad h)
        have hgo := fun x (h : valR (s.extract (i + 1) k) L = (x, true)) => hto.out.go hi hk (val_ok h)
        have hvs := val_size (s.extract (i + 1) k) L HV.out
        have hks := sub_size s (i + 1) k hs
        have hk3 := sub_size s (k + 1) s.size hs
        have hk4 : (s.extract (k + 1) s.size).size < r.size := by rw [her.out, ByteArray.size_extract, ByteArray.size_extract]; omega
        obtain ⟨z, ez⟩ : ∃ z, z = s.extract (k + 1) s.size := ⟨_, rfl⟩
        rw [← ez] at hd hk3 hk4
        have HEZ : Hid _ := ez
        clear ez
        generalize valR (s.extract (i + 1) k) L = q at hv hbad hgo hvs
        generalize s.extract (i + 1) k = y at hd hv hks
        generalize s.extract (i + 1) s.size = b at hc hd hr
        generalize s.extract p i = a at hc ha hgo
        obtain ⟨q1, q2⟩ := q
        have HC : Hid _ := hc
        have HD : Hid (∀ wr, Below w.heap.size w wr → _) := hd
        have HQ : Hid (∀ wr, Below w.heap.size w wr → _) := hv
        have hvs : q1.size ≤ 1048576 := hvs
        clear hmx hc hd hv hto her
        cases q2
        · have HX : Hid _ := hbad q1 rfl
          clear hbad hgo
          go_wp2_with fail
          refine Calls.mono HC.out ?_
          rintro e w1 ⟨rfl, hb1⟩
          have HR1 : Hid _ := hR.out.below hb1
          clear hb1
          go_wp2_with fail
          refine (HR1.out.write (by omega)).mono ?_
          rintro e w2 ⟨rfl, hR2⟩
          have HR2 : Hid _ := hR2
          clear hR2
          go_wp2_with fail
          refine (HD.out _ HR2.out.bel).mono ?_
          rintro e w3 ⟨rfl, hb3⟩
          have HR3 : Hid _ := HR2.out.below hb3
          clear hb3
          go_wp2_with fail
          refine (HQ.out _ HR3.out.bel).mono ?_
          rintro e w4 ⟨rfl, hb4⟩
          have HR4 : Hid _ := HR3.out.below hb4
          clear hb4
          unfold sb
          go_wp2
          go_ret2
          exact ⟨ret_exp (expR_none HX.out), HR4.out.bel⟩
        · have HX : Hid _ := hgo q1 rfl
          clear hbad hgo
          go_wp2_with fail
          refine Calls.mono HC.out ?_
          rintro e w1 ⟨rfl, hb1⟩
          have HR1 : Hid _ := hR.out.below hb1
          clear hb1
          go_wp2_with fail
          refine (HR1.out.write (by omega)).mono ?_
          rintro e w2 ⟨rfl, hR2⟩
          have HR2 : Hid _ := hR2
          clear hR2
          go_wp2_with fail
          refine (HD.out _ HR2.out.bel).mono ?_
          rintro e w3 ⟨rfl, hb3⟩
          have HR3 : Hid _ := HR2.out.below hb3
          clear hb3
          go_wp2_with fail
          refine (HQ.out _ HR3.out.bel).mono ?_
          rintro e w4 ⟨rfl, hb4⟩
          have HR4 : Hid _ := HR3.out.below hb4
          clear hb4
          unfold sb
          go_wp2_with fail
          refine (HR4.out.write (by rw [ByteArray.size_append]; omega)).mono ?_
          rintro e w5 ⟨rfl, hR5⟩
          have HR5 : Hid _ := hR5
          clear hR5
          go_wp2
          go_roundw
          case rel => exact ⟨k + 1, _, z, by omega, rfl, by omega, HEZ, by rw [ByteArray.size_append, ByteArray.size_append]; omega, HX, HR5⟩
          case measure => exact hk4
      · have hd := fun wr h => cut_miss (s.extract (i + 1) s.size) 59 wr (by omega) (hmx wr h) (hn.tail (by omega))
        have HX : Hid _ := hto.out.open_ hi hn
        have hv := fun wr h => HRV.out (s.extract (i + 1) s.size) wr hr h
        generalize valR (s.extract (i + 1) s.size) L = q at hv
        generalize s.extract (i + 1) s.size = b at hc hd hv hr
        generalize s.extract p i = a at hc ha
        obtain ⟨q1, q2⟩ := q
        have HC : Hid _ := hc
        have HD : Hid (∀ wr, Below w.heap.size w wr → _) := hd
        have HQ : Hid (∀ wr, Below w.heap.size w wr → _) := hv
        clear hmx hc hd hv hn hto hi her
        go_wp2_with fail
        refine Calls.mono HC.out ?_
        rintro e w1 ⟨rfl, hb1⟩
        have HR1 : Hid _ := hR.out.below hb1
        clear hb1
        go_wp2_with fail
        refine (HR1.out.write (by omega)).mono ?_
        rintro e w2 ⟨rfl, hR2⟩
        have HR2 : Hid _ := hR2
        clear hR2
        go_wp2_with fail
        refine (HD.out _ HR2.out.bel).mono ?_
        rintro e w3 ⟨rfl, hb3⟩
        have HR3 : Hid _ := HR2.out.below hb3
        clear hb3
        go_wp2_with fail
        refine (HQ.out _ HR3.out.bel).mono ?_
        rintro e w4 ⟨rfl, hb4⟩
        have HR4 : Hid _ := HR3.out.below hb4
        clear hb4
        unfold sb
        go_wp2
        go_ret2
        exact ⟨ret_exp (expR_none HX.out), HR4.out.bel⟩
    · have HC : Hid _ := cut_miss r 38 wr (by omega) (hmx _ hR.out.bel) (by rw [her.out]; exact hn.tail hp)
      have HX : Hid _ := hto.out.last hp hn
      rw [← her.out] at HX
      clear hmx hn hto her
      go_wp2_with fail
      refine Calls.mono HC.out ?_
      rintro e w1 ⟨rfl, hb1⟩
      have HR1 : Hid _ := hR.out.below hb1
      clear hb1
      go_wp2_with fail
      refine (HR1.out.write (by omega)).mono ?_
      rintro e w2 ⟨rfl, hR2⟩
      have HR2 : Hid _ := hR2
      clear hR2
      go_wp2_with fail
      refine HR2.out.done.mono ?_
      rintro e w3 ⟨rfl, hb3⟩
      go_wp2
      go_ret2
      exact ⟨ret_exp (expR_some HX.out), hb3⟩
/-! ### The whole -/
theorem impl_signs (s : ByteArray) (w : World) (hs : s.size ≤ maxLen) (hT : XTabs w) : Calls Tryz.prog 26 #[.string s] w fun e w' => e = .returned (.bool (scans.signs s)) ∧ Below w.heap.size w w' := by
  obtain ⟨b, o, c, h2⟩ := hT.tab.sign
  exact scans.impl_signs s b o c w hs hT.tab.utf h2
theorem exp_size {s : ByteArray} {L : List Pair} (hv : ∀ i, i < L.length → (at0 L i).2.size ≤ 1048576) : ∀ (f p : Nat) (out x : ByteArray), p ≤ s.size → out.size ≤ p * 1048577 → expF s L f p out = some x → x.size ≤ s.size * 1048577
  | 0, p, out, x, hp, ho, h => by
    rw [expF] at h
    have e := Option.some.inj h
    rw [← e]
    exact Nat.le_trans ho (Nat.mul_le_mul_right _ hp)
  | f + 1, p, out, x, hp, ho, h => by
    rw [expF] at h
    split at h
    · split at h
      · refine exp_size hv f (p + 1) _ x (by omega) ?_ h
        rw [ByteArray.size_append, ByteArray.size_extract]
        omega
      · split at h
        · cases h
        · split at h
          · have h1 := semiF_le s s.size p hp
            have h2 := one_size (s.extract (p + 1) (semi s p)) L hv
            rename_i hne _
            have h3 : semi s p < s.size := by unfold semi at hne ⊢; omega
            refine exp_size hv f (semi s p + 1) _ x (by omega) ?_ h
            rw [ByteArray.size_append]
            have h4 : p ≤ semi s p := h1.1
            omega
          · cases h
    · have e := Option.some.inj h
      rw [← e]
      exact Nat.le_trans ho (Nat.mul_le_mul_right _ hp)
set_option maxRecDepth 100000 in
set_option maxHeartbeats 4000000 in
theorem impl_expand (s : ByteArray) (a : Option Addr) (L : List Pair) (cap : Nat) (w : World) (hs : s.size ≤ maxLen) (hT : XTabs w) (hL : PairsAt w a L) (hv : ∀ i, i < L.length → (at0 L i).2.size ≤ 1048576) :
    Calls Tryz.prog 81 #[.string s, .slice a L.length cap] w fun e w' => e = .returned (sb (expandR s L)) ∧ Below w.heap.size w w' := by
  have HT : Hid (XTabs w) := hT
  have HL : Hid (PairsAt w a L) := hL
  have hlen := hL.short
  unfold maxLen at hs hlen
  by_cases hz : s.size ≤ 1500
  · have hz1 : (s.size : Int) ≤ 1500 := by omega
    have hG := impl_signs s w (by unfold maxLen; omega) hT
    cases hg : scans.signs s
    · have HF : Hid _ := exp_signs (L := L) (s := s) (by rw [hg]; rfl)
      rw [hg] at hG
      have HG : Hid _ := hG
      clear hG hg
      go_enter Tryz.func81, Tryz.ntmps81
      go_wp2_with fail
      refine Calls.mono HG.out ?_
      rintro e w1 ⟨rfl, hb1⟩
      have HB1 : Hid _ := hb1
      clear hb1
      go_wp2
      go_ret2
      exact ⟨ret_sb HF.out, HB1.out⟩
    · rw [hg] at hG
      have HG : Hid _ := hG
      have hEn := fun (w : World) h1 h2 => impl_ents a L cap w h1 h2
      cases he : entsB L
      · have HF : Hid _ := exp_ents (s := s) he
        rw [he] at hEn
        have HE : Hid (∀ w, Tabs w → PairsAt w a L → _) := hEn
        clear hG hg he hEn
        go_enter Tryz.func81, Tryz.ntmps81
        go_wp2_with fail
        refine Calls.mono HG.out ?_
        rintro e w1 ⟨rfl, hb1⟩
        have HB1 : Hid _ := hb1
        clear hb1
        go_wp2_with fail
        refine (HE.out _ (HT.out.below HB1.out).tab (HL.out.below (Nat.le_refl _) HB1.out)).mono ?_
        rintro e w2 ⟨rfl, hb2⟩
        have HB2 : Hid _ := HB1.out.trans (hb2.mono HB1.out.size)
        clear hb2
        go_wp2
        go_ret2
        exact ⟨ret_sb HF.out, HB2.out⟩
      · rw [he] at hEn
        have HE : Hid (∀ w, Tabs w → PairsAt w a L → _) := hEn
        have h4 : L.length ≤ 4 := by
          unfold entsB at he
          rw [Bool.and_eq_true] at he
          exact of_decide_eq_true he.2
        have HM : Hid (∀ w, Tabs w → PairsAt w a L → _) := fun w (h1 : Tabs w) h2 => impl_entMap a L cap w h1.fixed h2 h4
        have HX : Hid (∀ (mb n : Nat) (w : World), XTabs w → MapAt Tryz.prog w mb n (entM L) → _) := fun mb n w h1 h2 => impl_expandRefs s L mb n w hz hv h1 he h2
        have hno := @exp_none s L
        have hlong := fun x => @exp_long s x L
        have hyes := fun x => @exp_yes s x L (by rw [hg, decide_eq_true hz]; rfl) he
        have hxs := fun x (h : expE s L = some x) => exp_size hv s.size 0 _ x (Nat.zero_le _) (Nat.zero_le _) h
        clear hG hg he hEn hv
        cases hx : expE s L with
        | none =>
          have HF : Hid _ := hno hx
          rw [expR_none hx] at HX
          clear hno hlong hyes hxs hx
          go_enter Tryz.func81, Tryz.ntmps81
          go_wp2_with fail
          refine Calls.mono HG.out ?_
          rintro e w1 ⟨rfl, hb1⟩
          have HB1 : Hid _ := hb1
          clear hb1
          go_wp2_with fail
          refine (HE.out _ (HT.out.below HB1.out).tab (HL.out.below (Nat.le_refl _) HB1.out)).mono ?_
          rintro e w2 ⟨rfl, hb2⟩
          have HB2 : Hid _ := HB1.out.trans (hb2.mono HB1.out.size)
          clear hb2
          go_wp2_with fail
          refine (HM.out _ (HT.out.below HB2.out).tab (HL.out.below (Nat.le_refl _) HB2.out)).mono ?_
          rintro e w3 ⟨rfl, hm3, hb3⟩
          have HB3 : Hid _ := HB2.out.trans (hb3.mono HB2.out.size)
          have HM3 : Hid _ := hm3
          clear hb3 hm3
          go_wp2_with fail
          refine (HX.out _ _ _ (HT.out.below HB3.out) HM3.out).mono ?_
          rintro e w4 ⟨rfl, hb4⟩
          have HB4 : Hid _ := HB3.out.trans (hb4.mono HB3.out.size)
          clear hb4
          unfold sb
          go_wp2
          go_ret2
          exact ⟨ret_sb HF.out, HB4.out⟩
        | some x =>
          rw [expR_some hx] at HX
          have hxl := hxs x hx
          have HTX : Hid (∀ w, XTabs w → _) := fun w (h : XTabs w) => impl_textB x w (by unfold maxLen; omega) h.tab
          cases hb : textB x
          · have HF : Hid _ := hlong x hx hb
            rw [hb] at HTX
            clear hno hlong hyes hxs hx hb
            go_enter Tryz.func81, Tryz.ntmps81
            go_wp2_with fail
            refine Calls.mono HG.out ?_
            rintro e w1 ⟨rfl, hb1⟩
            have HB1 : Hid _ := hb1
            clear hb1
            go_wp2_with fail
            refine (HE.out _ (HT.out.below HB1.out).tab (HL.out.below (Nat.le_refl _) HB1.out)).mono ?_
            rintro e w2 ⟨rfl, hb2⟩
            have HB2 : Hid _ := HB1.out.trans (hb2.mono HB1.out.size)
            clear hb2
            go_wp2_with fail
            refine (HM.out _ (HT.out.below HB2.out).tab (HL.out.below (Nat.le_refl _) HB2.out)).mono ?_
            rintro e w3 ⟨rfl, hm3, hb3⟩
            have HB3 : Hid _ := HB2.out.trans (hb3.mono HB2.out.size)
            have HM3 : Hid _ := hm3
            clear hb3 hm3
            go_wp2_with fail
            refine (HX.out _ _ _ (HT.out.below HB3.out) HM3.out).mono ?_
            rintro e w4 ⟨rfl, hb4⟩
            have HB4 : Hid _ := HB3.out.trans (hb4.mono HB3.out.size)
            clear hb4
            unfold sb
            go_wp2_with fail
            refine (HTX.out _ (HT.out.below HB4.out)).mono ?_
            rintro e w5 ⟨rfl, hb5⟩
            have HB5 : Hid _ := HB4.out.trans (hb5.mono HB4.out.size)
            clear hb5
            go_wp2
            go_ret2
            exact ⟨ret_sb HF.out, HB5.out⟩
          · have HF : Hid _ := hyes x hx hb
            rw [hb] at HTX
            clear hno hlong hyes hxs hx hb
            go_enter Tryz.func81, Tryz.ntmps81
            go_wp2_with fail
            refine Calls.mono HG.out ?_
            rintro e w1 ⟨rfl, hb1⟩
            have HB1 : Hid _ := hb1
            clear hb1
            go_wp2_with fail
            refine (HE.out _ (HT.out.below HB1.out).tab (HL.out.below (Nat.le_refl _) HB1.out)).mono ?_
            rintro e w2 ⟨rfl, hb2⟩
            have HB2 : Hid _ := HB1.out.trans (hb2.mono HB1.out.size)
            clear hb2
            go_wp2_with fail
            refine (HM.out _ (HT.out.below HB2.out).tab (HL.out.below (Nat.le_refl _) HB2.out)).mono ?_
            rintro e w3 ⟨rfl, hm3, hb3⟩
            have HB3 : Hid _ := HB2.out.trans (hb3.mono HB2.out.size)
            have HM3 : Hid _ := hm3
            clear hb3 hm3
            go_wp2_with fail
            refine (HX.out _ _ _ (HT.out.below HB3.out) HM3.out).mono ?_
            rintro e w4 ⟨rfl, hb4⟩
            have HB4 : Hid _ := HB3.out.trans (hb4.mono HB3.out.size)
            clear hb4
            unfold sb
            go_wp2_with fail
            refine (HTX.out _ (HT.out.below HB4.out)).mono ?_
            rintro e w5 ⟨rfl, hb5⟩
            have HB5 : Hid _ := HB4.out.trans (hb5.mono HB4.out.size)
            clear hb5
            go_wp2
            go_ret2
            exact ⟨ret_sb HF.out, HB5.out⟩
  · have hz1 : ¬ (s.size : Int) ≤ 1500 := by omega
    have HF : Hid _ := exp_signs (L := L) (s := s) (by rw [decide_eq_false hz, Bool.and_false])
    go_enter Tryz.func81, Tryz.ntmps81
    go_wp2
    go_ret2
    exact ⟨ret_sb HF.out, Below.refl _ _⟩
end Go.Proofs.YtekbpekfomblbaaGreatDoor.refs
