/-
  What the program's refVal and numberedSign answer: what one reference stands for.
-/
import Derived.Test.YtekbpekfomblbaaGreatDoorImplEnts
import Derived.Test.YtekbpekfomblbaaGreatDoorParseUint
import Derived.Test.YtekbpekfomblbaaGreatDoorExpP
import Derived.Test.YtekbpekfomblbaaGreatDoorShapedAnd
import Derived.Shelf.Small.Wraps
namespace Go.Proofs.YtekbpekfomblbaaGreatDoor.refs
open Go.ChangeShapes Go.WideShapes Go.ChangeAt Go.RowKit Go.Shelf
open escs (byteAt)
open pairs (Pair at0 PairsAt TableAt)
open tmaps (MapAt Meaning putM delM)
set_option linter.unusedVariables false
/-- Tables, the library's error and its own variable. -/
structure XTabs (w : World) : Prop where
  tab : Tabs w
  err : parseu.ErrAt w
  max : frames.MaxAt w
theorem XTabs.below {w w' : World} (h : XTabs w) (hb : Below w.heap.size w w') : XTabs w' := ⟨h.tab.below hb, h.err.below hb, h.max.below hb⟩
theorem impl_isSign (n : Int) (w : World) (hT : XTabs w) : Calls Tryz.prog 51 #[.int .i64 n] w fun e w' => e = .returned (.bool (spans.inB spans.signL n)) ∧ Below w.heap.size w w' := by
  obtain ⟨b, o, c, h2⟩ := hT.tab.sign
  exact spans.impl_sign n spans.signL b o c w h2
/-! ### A sign by its number -/
def signR (n : Int) : ByteArray × Bool := if (decide (0 ≤ n) && spans.inB spans.signL n) = true then (texts.stx n, true) else (⟨#[]⟩, false)
theorem sign_neg : signR (-1) = (⟨#[]⟩, false) := by unfold signR; rw [if_neg (by decide)]
theorem sign_no {n : Int} (h : spans.inB spans.signL n = false) : signR n = (⟨#[]⟩, false) := by unfold signR; rw [h, Bool.and_false, if_neg (by decide)]
theorem sign_yes {n : Int} (h0 : 0 ≤ n) (h : spans.inB spans.signL n = true) : signR n = (texts.stx n, true) := by unfold signR; rw [h, decide_eq_true h0, if_pos (by decide)]
theorem number_numR {d : ByteArray} {base : Int} {most : Nat} (h : d.size ≤ most) : number d base most = (parseu.numR d base).getD (-1) := by
  unfold number parseu.numR
  by_cases h0 : d.size = 0
  · rw [if_neg (by omega), if_pos h0]; rfl
  · rw [if_pos (by omega), if_neg h0]
theorem numR_range {d : ByteArray} {base n : Int} (hb : base = 10 ∨ base = 16) (h : d.size ≤ 7) (e : parseu.numR d base = some n) : 0 ≤ n ∧ n < 268435456 := by
  unfold parseu.numR at e
  split at e
  · cases e
  · exact parseu.num_small hb h e
set_option maxRecDepth 100000 in
set_option maxHeartbeats 2000000 in
theorem impl_numbered (d : ByteArray) (base : Int) (most : Nat) (hb : base = 10 ∨ base = 16) (hm : most ≤ 7) (w : World) (hs : d.size ≤ maxLen) (hT : XTabs w) :
    Calls Tryz.prog 108 #[.string d, .int .i64 base, .int .i64 most] w fun e w' => e = .returned (sb (signR (number d base most))) ∧ Below w.heap.size w w' := by
  have HT : Hid (XTabs w) := hT
  unfold maxLen at hs
  by_cases hl : d.size ≤ most
  · rw [number_numR hl]
    have HP : Hid (∀ w, XTabs w → _) := fun w (h : XTabs w) => parseu.parse_uint d base hb (by omega) w h.err
    have hR := fun n => numR_range (n := n) hb (show d.size ≤ 7 by omega)
    have hl1 : (d.size : Int) ≤ most := by omega
    clear hT
    cases hr : parseu.numR d base with
    | none =>
      rw [hr] at HP
      clear hr hR
      go_enter Tryz.func108, Tryz.ntmps108
      go_wp2_with fail
      refine (HP.out _ HT.out).mono ?_
      rintro e w1 ⟨v, rfl, hv, hb1⟩
      rcases hv with ⟨n, h, _⟩ | ⟨_, N, rfl⟩
      · cases h
      · go_wp2
        go_ret2
        exact ⟨ret_sb sign_neg, hb1⟩
    | some n =>
      rw [hr] at HP
      obtain ⟨n0, n1⟩ := hR n hr
      have HQ : Hid (∀ w, XTabs w → _) := fun w h => impl_isSign n w h
      have HX : Hid (∀ w, _) := fun w => texts.impl_any n w
      clear hr hR
      cases hi : spans.inB spans.signL n
      · have HF : Hid (signR n = _) := sign_no hi
        rw [hi] at HQ
        go_enter Tryz.func108, Tryz.ntmps108
        go_wp2_with fail
        refine (HP.out _ HT.out).mono ?_
        rintro e w1 ⟨v, rfl, hv, hb1⟩
        rcases hv with ⟨n', h, rfl⟩ | ⟨h, _⟩
        · obtain rfl := Option.some.inj h
          have HB1 : Hid _ := hb1
          clear h hb1
          go_wp2_with fail
          refine (HQ.out _ (HT.out.below HB1.out)).mono ?_
          rintro e w2 ⟨rfl, hb2⟩
          have HB2 : Hid _ := HB1.out.trans (hb2.mono HB1.out.size)
          clear hb2
          go_wp2
          go_ret2
          exact ⟨ret_sb HF.out, HB2.out⟩
        · cases h
      · have HF : Hid (signR n = _) := sign_yes n0 hi
        rw [hi] at HQ
        go_enter Tryz.func108, Tryz.ntmps108
        go_wp2_with fail
        refine (HP.out _ HT.out).mono ?_
        rintro e w1 ⟨v, rfl, hv, hb1⟩
        rcases hv with ⟨n', h, rfl⟩ | ⟨h, _⟩
        · obtain rfl := Option.some.inj h
          have HB1 : Hid _ := hb1
          clear h hb1
          go_wp2_with fail
          refine (HQ.out _ (HT.out.below HB1.out)).mono ?_
          rintro e w2 ⟨rfl, hb2⟩
          have HB2 : Hid _ := HB1.out.trans (hb2.mono HB1.out.size)
          clear hb2
          go_wp2_with fail
          refine (HX.out _).mono ?_
          rintro e w3 ⟨rfl, rfl⟩
          go_wp2
          go_ret2
          exact ⟨ret_sb HF.out, HB2.out⟩
        · cases h
  · rw [number_no (by omega)]
    have hl1 : ¬ (d.size : Int) ≤ most := by omega
    go_enter Tryz.func108, Tryz.ntmps108
    go_wp2
    go_ret2
    exact ⟨ret_sb sign_neg, Below.refl _ _⟩
/-! ### What stands ahead of a text -/
def laysCP_ren : Go.Shelf.Ren := ⟨fun | 103 => 107 | 210 => 110 | 206 => 86 | n => n, fun | 9 => 9 | 4 => 4 | 24 => 72 | 3 => 3 | n => n, fun | n => n⟩
theorem laysCP : Go.Proofs.Lays.n103 Tryz.prog laysCP_ren := {
  mixed := by kernel_rfl
  f103 := Tryz.func107.trans (congrArg some (by kernel_rfl))
  f206 := Tryz.func86.trans (congrArg some (by kernel_rfl))
  f210 := Tryz.func110.trans (congrArg some (by kernel_rfl))
  t3 := Tryz.underlying3
  a3 := Tryz.isAgg3
  z3 := Tryz.sizeOf3
  v3 := Tryz.zeroValue3
  t4 := Tryz.underlying4
  a4 := Tryz.isAgg4
  z4 := Tryz.sizeOf4
  v4 := Tryz.zeroValue4
  t9 := Tryz.underlying9
  a9 := Tryz.isAgg9
  z9 := Tryz.sizeOf9
  v9 := Tryz.zeroValue9
  t24 := Tryz.underlying72
  a24 := Tryz.isAgg72
  z24 := Tryz.sizeOf72
  v24 := Tryz.zeroValue72 }
theorem list_get (s : ByteArray) : ∀ j, j < s.size → ∃ h : j < s.data.toList.length, ((s.data.toList[j]'h).toNat : Int) = byteAt s j := fun j h => by
  have h' : j < s.data.toList.length := by rw [Array.length_toList]; exact h
  refine ⟨h', ?_⟩
  rw [← parseu.byte_list s j h, List.getD_eq_getElem?_getD, List.getElem?_eq_getElem h']
  rfl
theorem u8_eq {a b : UInt8} (h : (a.toNat : Int) = b.toNat) : a = b := UInt8.toNat_inj.1 (by omega)
theorem pre2 (s : ByteArray) : Lib.hasPrefix s.data.toList [35, 120] = decide (1 < s.size ∧ byteAt s 0 = 35 ∧ byteAt s 1 = 120) := by
  have hl : s.data.toList.length = s.size := by rw [Array.length_toList]; rfl
  have hg := list_get s
  generalize s.data.toList = l at hl hg ⊢
  match l, hl with
  | [], hl => rw [decide_eq_false (by intro h; simp at hl; omega)]; rfl
  | [a], hl => rw [decide_eq_false (by intro h; simp at hl; omega)]; simp [Lib.hasPrefix, List.isPrefixOf]
  | a :: b :: r, hl =>
    simp at hl
    obtain ⟨_, e0⟩ := hg 0 (by omega)
    obtain ⟨_, e1⟩ := hg 1 (by omega)
    simp at e0 e1
    rw [← e0, ← e1]
    simp only [Lib.hasPrefix, List.isPrefixOf, Bool.and_true]
    rw [Bool.eq_iff_iff]
    simp only [Bool.and_eq_true, beq_iff_eq, decide_eq_true_eq]
    constructor
    · rintro ⟨rfl, rfl⟩; exact ⟨by omega, rfl, rfl⟩
    · rintro ⟨_, h1, h2⟩; exact ⟨(u8_eq (b := 35) h1).symm, (u8_eq (b := 120) h2).symm⟩
theorem pre1 (s : ByteArray) : Lib.hasPrefix s.data.toList [35] = decide (0 < s.size ∧ byteAt s 0 = 35) := by
  have hl : s.data.toList.length = s.size := by rw [Array.length_toList]; rfl
  have hg := list_get s
  generalize s.data.toList = l at hl hg ⊢
  match l, hl with
  | [], hl => rw [decide_eq_false (by intro h; simp at hl; omega)]; rfl
  | a :: r, hl =>
    simp at hl
    obtain ⟨_, e0⟩ := hg 0 (by omega)
    simp at e0
    rw [← e0]
    simp only [Lib.hasPrefix, List.isPrefixOf, Bool.and_true]
    rw [Bool.eq_iff_iff]
    simp only [beq_iff_eq, decide_eq_true_eq]
    constructor
    · rintro rfl; exact ⟨by omega, rfl⟩
    · rintro ⟨_, h1⟩; exact (u8_eq (b := 35) h1).symm
theorem drop_extract (s : ByteArray) (k : Nat) : (⟨(s.data.toList.drop k).toArray⟩ : ByteArray) = s.extract k s.size := by
  apply ByteArray.ext
  apply Array.toList_inj.1
  rw [Lib.extract_eq]
  simp
  rw [List.take_of_length_le]
  rw [List.length_drop, Array.length_toList]
  exact Nat.le_refl _
theorem cut_prefix (s p : ByteArray) (k : Nat) (b : Bool) (hp : p.data.toList.length = k) (h : Lib.hasPrefix s.data.toList p.data.toList = b) (w : World) :
    Calls Tryz.prog 107 #[.string s, .string p] w fun e w' => e = .returned (.tuple #[.string (if b = true then s.extract k s.size else s), .bool b]) ∧ w' = w := by
  refine (Any.strings_CutPrefix laysCP s p w).mono ?_
  rintro e w' ⟨he, hw⟩
  refine ⟨?_, hw⟩
  rw [he, h]
  unfold Lib.trimPrefix
  rw [h]
  cases b
  · simp
  · simp only [if_true]; rw [hp, drop_extract]
/-! ### What the map means -/
def valR (s : ByteArray) (L : List Pair) : ByteArray × Bool := if (oneR s L).2 = true then oneR s L else (⟨#[]⟩, false)
theorem ents_at {L : List Pair} (h : entsB L = true) {i : Nat} (hi : i < L.length) : (good L i && uniq L i) = true := by
  unfold entsB at h
  rw [Bool.and_eq_true] at h
  exact List.all_eq_true.1 h.1 i (List.mem_range.2 hi)
theorem ents_known {L : List Pair} (h : entsB L = true) {i : Nat} (hi : i < L.length) : (known (at0 L i).1).toList.isEmpty = true := by
  have := ents_at h hi
  cases hk : (known (at0 L i).1).toList.isEmpty
  · rw [good_known hk] at this; cases this
  · rfl
theorem ents_uniq {L : List Pair} (h : entsB L = true) {i : Nat} (hi : i < L.length) : ∀ k, k < i → (at0 L k).1 ≠ (at0 L i).1 := by
  have := ents_at h hi
  rw [Bool.and_eq_true] at this
  exact uniq_iff.1 this.2
theorem ents_plain {L : List Pair} (h : entsB L = true) {i : Nat} (hi : i < L.length) : names.plainB (at0 L i).1 = true := by
  have := ents_at h hi
  rw [Bool.and_eq_true] at this
  have h1 := this.1
  unfold good at h1
  rw [Bool.and_eq_true] at h1
  exact h1.1
theorem putTo_uniq {M : Meaning} {L : List Pair} {i : Nat} {x : ByteArray} (e : (at0 L i).1 = x) : ∀ {k : Nat}, i < k → (∀ j, i < j → j < k → (at0 L j).1 ≠ x) → putTo M L k x = some (at0 L i).2
  | 0, h, _ => by omega
  | k + 1, h, hu => by
    rw [putTo]
    unfold putM
    by_cases h2 : i = k
    · subst h2
      rw [if_pos e.symm]
    · rw [if_neg (fun e' => hu k (by omega) (by omega) e'.symm)]
      exact putTo_uniq e (by omega) (fun j a b => hu j a (by omega))
theorem fix_known {s : ByteArray} (h : (known s).toList.isEmpty = false) : fixM s = some (known s) := by
  obtain ⟨j, hj, e⟩ := known_yes h
  rw [known_at hj e]
  exact putTo_uniq e hj (fun q a b => by
    subst e
    have h' : j = 0 ∨ j = 1 ∨ j = 2 ∨ j = 3 ∨ j = 4 := by omega
    have h'' : q = 0 ∨ q = 1 ∨ q = 2 ∨ q = 3 ∨ q = 4 := by omega
    rcases h' with rfl | rfl | rfl | rfl | rfl <;> rcases h'' with rfl | rfl | rfl | rfl | rfl <;> first | omega | (intro e2; have := congrArg (fun b => b.data) e2; simp [at0, fixedL] at this))
theorem fix_other {s : ByteArray} (h : (known s).toList.isEmpty = true) : fixM s = none := putTo_miss (known_no h)
theorem toList_eq {a b : ByteArray} : (a.toList == b.toList) = true ↔ a = b := by
  rw [beq_iff_eq, ByteArray.toList_eq, ByteArray.toList_eq]
  exact ⟨fun h => pairs.data_inj h, fun h => by rw [h]⟩
/-- What is found in the map: what one stands for, where it is no number. -/
theorem ent_look {L : List Pair} (h : entsB L = true) (s : ByteArray) (hs : ¬ (1 < s.size ∧ byteAt s 0 = 35)) : ((entM L s).getD ⟨#[]⟩, (entM L s).isSome) = valR s L := by
  unfold valR
  cases hk : (known s).toList.isEmpty
  · rw [one_known hs hk]
    have : entM L s = some (known s) := by
      rw [← fix_known hk]
      exact putTo_miss (fun j hj e => by
        have := ents_known h hj
        rw [e, hk] at this
        cases this)
    rw [this]
    rfl
  · rw [one_look hs hk]
    by_cases hf : ∃ i, i < L.length ∧ (at0 L i).1 = s
    · obtain ⟨i, hi, e⟩ := hf
      have hu : ∀ j, j < L.length → j ≠ i → (at0 L j).1 ≠ s := fun j hj hne e2 => by
        rcases Nat.lt_or_gt_of_ne hne with hlt | hlt
        · exact ents_uniq h hi j hlt (e2.trans e.symm)
        · exact ents_uniq h hj i hlt (e.trans e2.symm)
      rw [look_some hi (toList_eq.2 e) (fun j hj => by
        cases hb : ((at0 L j).1.toList == s.toList)
        · rfl
        · exact absurd (toList_eq.1 hb) (hu j (by omega) (by omega)))]
      have : entM L s = some (at0 L i).2 := putTo_uniq e hi (fun j a b => hu j b (by omega))
      rw [this]
      rfl
    · rw [look_none (fun j hj => by
        cases hb : ((at0 L j).1.toList == s.toList)
        · rfl
        · exact absurd ⟨j, hj, toList_eq.1 hb⟩ hf)]
      have : entM L s = none := (putTo_miss (fun j hj e => hf ⟨j, hj, e⟩)).trans (fix_other hk)
      rw [this]
      rfl
theorem val_num {s : ByteArray} {L : List Pair} (h : 1 < s.size ∧ byteAt s 0 = 35) : valR s L = signR (numOf s) := by
  unfold valR signR
  rw [one_num h]
  cases decide (0 ≤ numOf s) && spans.inB spans.signL (numOf s) <;> rfl
theorem hash_one {s : ByteArray} (h : s.size = 1) (h0 : byteAt s 0 = 35) : s = ⟨#[35]⟩ := by
  obtain ⟨_, e⟩ := list_get s 0 (by omega)
  apply ByteArray.ext
  apply Array.toList_inj.1
  have hl : s.data.toList.length = 1 := by rw [Array.length_toList]; exact h
  match hs : s.data.toList, hl with
  | [a], _ =>
    simp only [hs] at e
    rw [h0] at e
    rw [u8_eq (a := a) (b := 35) e]
theorem hash_plain : names.plainB ⟨#[35]⟩ = false := by decide +kernel
theorem hash_known : (known ⟨#[35]⟩).toList.isEmpty = true := by
  have : known ⟨#[35]⟩ = ⟨#[]⟩ := by simp [known, ByteArray.toList_eq]
  rw [this]
  exact empty_of rfl
theorem val_hash {s : ByteArray} {L : List Pair} (hL : entsB L = true) (h : s.size = 1) (h0 : byteAt s 0 = 35) : valR s L = (⟨#[]⟩, false) := by
  obtain rfl := hash_one h h0
  unfold valR
  rw [one_look (fun h => absurd h.1 (by decide)) hash_known, look_none (fun j hj => by
    cases hb : ((at0 L j).1.toList == (⟨#[35]⟩ : ByteArray).toList)
    · rfl
    · have := ents_plain hL hj
      rw [toList_eq.1 hb, hash_plain] at this
      cases this)]
  rfl
set_option maxRecDepth 100000 in
set_option maxHeartbeats 2000000 in
theorem impl_refVal (s : ByteArray) (L : List Pair) (mb n : Nat) (w : World) (hs : s.size ≤ maxLen) (hT : XTabs w) (hE : entsB L = true) (hM : MapAt Tryz.prog w mb n (entM L)) :
    Calls Tryz.prog 101 #[.string s, .map (some mb)] w fun e w' => e = .returned (sb (valR s L)) ∧ Below w.heap.size w w' := by
  have HT : Hid (XTabs w) := hT
  have HM : Hid _ := hM
  have hz : ∀ w, (zeroValue 63).run Tryz.prog w = .ok (.agg #[.string ⟨#[]⟩, .string ⟨#[]⟩]) w := Tryz.zeroValue63
  by_cases h2 : 1 < s.size ∧ byteAt s 0 = 35 ∧ byteAt s 1 = 120
  · have H1 : Hid (∀ w, _) := fun w => cut_prefix s ⟨#[35, 120]⟩ 2 true rfl (by rw [pre2, decide_eq_true h2]) w
    have HN : Hid (∀ w, XTabs w → _) := fun w (h : XTabs w) => impl_numbered (s.extract 2 s.size) 16 6 (.inr rfl) (by omega) w (by rw [ByteArray.size_extract]; unfold maxLen at hs ⊢; omega) h
    have e : valR s L = signR (number (s.extract 2 s.size) 16 6) := by
      rw [val_num ⟨h2.1, h2.2.1⟩]; unfold numOf; rw [if_pos h2.2.2]
    rw [e]
    clear e h2
    simp only [if_true] at H1
    go_enter Tryz.func101, Tryz.ntmps101
    go_wp2_with fail
    refine (H1.out _).mono ?_
    rintro e w1 ⟨rfl, rfl⟩
    go_wp2_with fail
    refine (HN.out _ HT.out).mono ?_
    rintro e w2 ⟨rfl, hb2⟩
    unfold sb
    go_wp2
    go_ret2
    exact ⟨rfl, hb2⟩
  · have H1 : Hid (∀ w, _) := fun w => cut_prefix s ⟨#[35, 120]⟩ 2 false rfl (by rw [pre2, decide_eq_false h2]) w
    simp only [if_neg (by decide : ¬ (false = true))] at H1
    by_cases h1 : 0 < s.size ∧ byteAt s 0 = 35
    · have H3 : Hid (∀ w, _) := fun w => cut_prefix s ⟨#[35]⟩ 1 true rfl (by rw [pre1, decide_eq_true h1]) w
      simp only [if_true] at H3
      have HN : Hid (∀ w, XTabs w → _) := fun w (h : XTabs w) => impl_numbered (s.extract 1 s.size) 10 7 (.inl rfl) (by omega) w (by rw [ByteArray.size_extract]; unfold maxLen at hs ⊢; omega) h
      have e : valR s L = signR (number (s.extract 1 s.size) 10 7) := by
        by_cases h3 : 1 < s.size
        · rw [val_num ⟨h3, h1.2⟩]; unfold numOf; rw [if_neg (fun h => h2 ⟨h3, h1.2, h⟩)]
        · rw [val_hash hE (by omega) h1.2, number_no (by rw [ByteArray.size_extract]; omega), sign_neg]
      rw [e]
      clear e h2 h1
      go_enter Tryz.func101, Tryz.ntmps101
      go_wp2_with fail
      refine (H1.out _).mono ?_
      rintro e w1 ⟨rfl, rfl⟩
      go_wp2_with fail
      refine (H3.out _).mono ?_
      rintro e w1 ⟨rfl, rfl⟩
      go_wp2_with fail
      refine (HN.out _ HT.out).mono ?_
      rintro e w2 ⟨rfl, hb2⟩
      unfold sb
      go_wp2
      go_ret2
      exact ⟨rfl, hb2⟩
    · have H3 : Hid (∀ w, _) := fun w => cut_prefix s ⟨#[35]⟩ 1 false rfl (by rw [pre1, decide_eq_false h1]) w
      simp only [if_neg (by decide : ¬ (false = true))] at H3
      have HF : Hid (valR s L = _) := (ent_look hE s (fun h => h1 ⟨by omega, h.2⟩)).symm
      have HS : Hid _ := hs
      clear h2 h1 hT hM hs
      obtain ⟨M, eM⟩ : ∃ M, M = entM L := ⟨_, rfl⟩
      rw [← eM] at HF HM
      clear eM hE
      go_enter Tryz.func101, Tryz.ntmps101
      go_wp2_with fail
      refine (H1.out _).mono ?_
      rintro e w1 ⟨rfl, rfl⟩
      go_wp2_with fail
      refine (H3.out _).mono ?_
      rintro e w1 ⟨rfl, rfl⟩
      go_wp2_with (at_lookup; refine tmaps.wp_look _ Tryz.underlying9 rfl _ _ 64 63 rfl Tryz.underlying64 (hz _) mb n M rfl HM.out s rfl HS.out ?_; intro nm)
      go_wp2
      go_ret2
      exact ⟨ret_sb HF.out, by first | exact Below.refl _ _ | exact (Below.refl _ _).alloc (Nat.le_refl _) _⟩
end Go.Proofs.YtekbpekfomblbaaGreatDoor.refs
