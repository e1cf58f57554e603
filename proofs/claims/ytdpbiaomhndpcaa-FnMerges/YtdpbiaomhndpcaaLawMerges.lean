/-
  For every draw the law FnMerges returns true: texts that were merged have what they had, and none stands beside another one; merged again they are the same. No condition.
  The frame was written by the kit's own program (proof-skeleton.mjs); the walk is ours.
-/
import Derived.Test.YtdpbiaomhndpcaaRows
import Derived.Test.YtdpbiaomhndpcaaDrawMerge
import Derived.Test.YtdpbiaomhndpcaaImplMerge
import Derived.Test.YtdpbiaomhndpcaaSpecMerge
import Derived.Test.YtdpbiaomhndpcaaMergeFacts
import Derived.Test.YtdpbiaomhndpcaaSameList
import Derived.Test.YtdpbiaomhndpcaaDrawRow
import Derived.WalkKit
import Derived.ProofKit
import Derived.OpenShut
import Derived.ShutString
import Derived.ChangeOld
import Derived.Below
namespace Go.Proofs.Ytdpbiaomhndpcaa.fnMerges
open Go.ChangeShapes Go.WideShapes Go.ChangeAt Go.RowKit
open Go.ChangeMaps (open_string shut_string)
set_option linter.unusedVariables false

theorem own : ownKnob Try.prog.godebug = none := by kernel_rfl
theorem laidOut : laidOutB Try.prog = true := by kernel_rfl

/-- WHAT THE WALK IS TOLD OF A SLICE OF INTEGERS THAT CAME IN: it is nil; or it leads to a row of 'cap' cells, the numbers 'zs' (the first 'len' are its elements, the rest its spare room), each fitting its kind. -/
def IsRow (k : IntKind) (w : World) (a : Option Addr) (len cap : Nat) (zs : List Int) : Prop :=
  (a = none ∧ len = 0 ∧ cap = 0 ∧ zs = []) ∨
  ∃ x, a = some x ∧ len ≤ cap ∧ cap ≤ maxLen ∧ zs.length = cap ∧ (∀ i, i < zs.length → w.cell? (x.add i) = some (.int k (zs.getD i 0))) ∧ ∀ n ∈ zs, (Lit.int k n).wf = true

theorem big_no (w : World) (a : Option Addr) (len cap : Nat) (h : len ≤ 1048576) : Calls Try.prog 4 #[.slice a len cap] w fun e w' => e = .returned (.bool false) ∧ w' = w := by
  have h' : ¬ (1048576 : Int) < len := by omega
  go_enter Try.func4, Try.ntmps4
  go_wp2
  go_ret
  exact ⟨by simp, rfl⟩
theorem big_yes (w : World) (a : Option Addr) (len cap : Nat) (h : ¬ len ≤ 1048576) : Calls Try.prog 4 #[.slice a len cap] w fun e w' => e = .returned (.bool true) ∧ w' = w := by
  have h' : (1048576 : Int) < len := by omega
  go_enter Try.func4, Try.ntmps4
  go_wp2
  go_ret
  exact ⟨by simp, rfl⟩
theorem merge_flat {f : FuncId} {cap : Nat} {L M : List trees.Tree} {a : Option Addr} {w : World} (h : trees.MergeOk f L a cap w) (hM : trees.mergeL L = M) : Calls Try.prog f #[.slice a L.length cap] w fun e w' => (∃ g c, e = .returned (.slice (some ⟨g, 0, none⟩) M.length c) ∧ trees.OwnL w' (some ⟨g, 0, none⟩) M (fun b => w.heap.size ≤ b ∧ b < w'.heap.size) ∧ trees.nszs M ≤ trees.nszs L) ∧ Below w.heap.size w w' := by
  unfold trees.MergeOk at h
  refine Calls.mono h ?_
  rintro e w' ⟨⟨g, c, P, G, rfl, hP, hR, hs⟩, hb⟩
  have hl : P.length = M.length := by rw [← hM, ← hP, trees.trees1_len]
  have ho := hR.row
  rw [hP, hM] at ho
  rw [hP, hM] at hs
  exact ⟨⟨g, c, by rw [hl], ho, hs⟩, hb⟩
theorem short_of {L : List trees.Tree} (hz : trees.nszs L ≤ 1048576) : L.length ≤ maxLen := by
  have := trees.nszs_eq L
  unfold maxLen
  omega
theorem draw_flat {w : World} {len cap : Nat} {a : Option Addr} (hz : len ≤ 1048576) (hr : Hid (draws.RowAt w a len)) : Calls Try.prog 5 #[.slice a len cap] w fun e w' => (∃ (ka : Option Addr) (kc : Nat) (L : List trees.Tree), e = .returned (.slice ka L.length kc) ∧ trees.NodesAt w' 0 ka L ∧ trees.nszs L ≤ 1048576) ∧ Below w.heap.size w w' :=
  (draws.drawMerge w len cap a hz hr).mono fun e w' ⟨ka, kc, P, he, ho, hs, hb⟩ => ⟨⟨ka, kc, trees.trees1 P, by rw [trees.trees1_len]; exact he, ho.at (short_of (Nat.le_trans hs (by decide))), Nat.le_trans hs (by decide)⟩, hb⟩
theorem cells_of {w : World} {a : Option Addr} {L : List trees.Tree} {k : Nat} (h : trees.NodesAt w 0 a L) (hk : k < L.length) : ∃ b off, a = some ⟨b, off, none⟩ ∧ ∀ i, i < L.length → w.cell? ⟨b, off + i * 8, none⟩ = some (.int .i64 (trees.kid L i).kind) ∧ w.cell? ⟨b, off + i * 8 + 7, none⟩ = some (.string (trees.kid L i).text) := by
  obtain ⟨b, off, ha, hlt, hc⟩ := h.row (by omega)
  refine ⟨b, off, ha, fun i hi => ?_⟩
  obtain ⟨h1, hn1, hcs⟩ := hc i hi
  exact ⟨hcs.1, hcs.2.2.2.2.2.2.2⟩
theorem sep_text {L : List trees.Tree} {k : Nat} (h : k < L.length) (h1 : (trees.kid L k).kind = 2) : trees.sepT (L.take k) ++ (trees.kid L k).text = trees.sepT (L.take (k + 1)) := by rw [trees.sepT_take h]; unfold trees.addS; rw [if_pos h1]
theorem sep_bar {L : List trees.Tree} {k : Nat} (h : k < L.length) (h1 : ¬ (trees.kid L k).kind = 2) : trees.sepT (L.take k) ++ (⟨#[124]⟩ : ByteArray) = trees.sepT (L.take (k + 1)) := by rw [trees.sepT_take h]; unfold trees.addS; rw [if_neg h1]; rfl
theorem sep_all (L : List trees.Tree) : trees.sepT (L.take L.length) = trees.sepT L := by rw [List.take_length]
theorem room_text {L : List trees.Tree} {k : Nat} {s x : ByteArray} (hs : trees.nszs L ≤ 1048576) (h : s ++ x = trees.sepT (L.take (k + 1))) : s.size + x.size ≤ 1048576 := by
  have h1 := trees.sep_take_size L (k + 1)
  rw [← h, ByteArray.size_append] at h1
  omega
/-! ### STEP 1: THE WALK: the Go text returns true, AND WRITES NOTHING THAT WAS THERE: 'Below w.heap.size w w'' (Derived/Below.lean: '.refl', '.alloc', '.drew', '.setCell' at a new block, '.trans'). Open each 'IsRow' by 'rcases' AHEAD of 'go_enter'; part every test ahead of the walk. -/
set_option maxRecDepth 100000 in
set_option maxHeartbeats 8000000 in
theorem walk (a0 : Option Addr) (len0 cap0 : Nat) (z0 : List Int) (w : World) (w0 : IsRow .u8 w a0 len0 cap0 z0) :
    Calls Try.prog 3 #[.slice a0 len0 cap0] w fun e w' => e = .returned (.bool true) ∧ Below w.heap.size w w' := by
  have hr : Hid (draws.RowAt w a0 len0) := draws.rowAt_of w0
  clear w0
  by_cases hz : len0 ≤ 1048576
  · go_enter Try.func3, Try.ntmps3
    go_wp2_with fail
    refine (big_no _ _ _ _ hz).mono ?_
    rintro e w' ⟨rfl, hw'⟩
    have hw2 := hw'.symm
    clear hw'
    subst hw2
    go_wp2_with fail
    refine (draw_flat hz hr).mono ?_
    rintro e w1 ⟨⟨ka, kc, L, rfl, hn, hs⟩, hb⟩
    have HL1 : Hid (trees.NodesAt w1 0 ka L) := hn
    have HS1 : Hid (trees.nszs L ≤ 1048576) := hs
    have HB1 : Hid (Below w.heap.size w w1) := hb
    clear hn hs hb hr
    obtain ⟨M, hM⟩ : ∃ M, trees.mergeL L = M := ⟨_, rfl⟩
    have HM : Hid (trees.mergeL L = M) := hM
    clear hM
    have HMM : Hid (trees.mergeL M = M) := by show _ = _; rw [← HM.out]; exact trees.merge_merge L
    have HAL : Hid (trees.Alone2 M) := by show trees.Alone2 M; rw [← HM.out]; exact trees.alone_merge L
    have HSE : Hid (trees.sepT M = trees.sepT L) := by show _ = _; rw [← HM.out]; exact trees.sep_merge L
    go_wp2_with fail
    refine (merge_flat (trees.impl_merge 0 L ka kc w1 HS1.out HL1.out) HM.out).mono ?_
    rintro e w2 ⟨⟨g, c, rfl, ho, hs⟩, hb⟩
    have HS2 : Hid (trees.nszs M ≤ 1048576) := Nat.le_trans hs HS1.out
    have HN2 : Hid (trees.NodesAt w2 0 (some ⟨g, 0, none⟩) M) := ho.at (short_of HS2.out)
    have HL2 : Hid (trees.NodesAt w2 0 ka L) := HL1.out.below hb
    have HB2 : Hid (Below w.heap.size w w2) := HB1.out.trans (hb.mono HB1.out.size)
    have hll : L.length ≤ 1048576 := by have := trees.nszs_eq L; have := HS1.out; omega
    have hml : M.length ≤ 1048576 := by have := trees.nszs_eq M; have := HS2.out; omega
    clear ho hs hb HL1 HB1
    go_wp2
    go_loopw [5, 7] (fun q5 q7 wr => ∃ (k : Nat) (s : ByteArray), k ≤ L.length ∧ q5 = .string s ∧ q7 = .int .i64 k ∧ Hid (s = trees.sepT (L.take k)) ∧ Hid (wr = w2)) (fun _ q7 _ => L.length - (intOf q7).toNat)
    case atStart => exact ⟨0, ⟨#[]⟩, Nat.zero_le _, rfl, rfl, rfl, rfl⟩
    case round =>
      obtain ⟨k, s, hk, rfl, rfl, hsk, hw⟩ := hrel
      have hw' : w2 = wr := (show wr = w2 from hw).symm
      subst hw'
      by_cases hlt : k < L.length
      · obtain ⟨b, off, rfl, hc⟩ := cells_of HL2.out hlt
        obtain ⟨c0, c7⟩ := hc k hlt
        have HT : Hid _ := fun h1 => sep_text (L := L) hlt h1
        have HR : Hid _ := fun h1 => sep_bar (L := L) hlt h1
        obtain ⟨x, hx⟩ : ∃ x, trees.kid L k = x := ⟨_, rfl⟩
        rw [hx] at c0 c7 HT HR
        clear hc hx
        by_cases h1 : x.kind = 2
        · have HT2 : Hid (s ++ x.text = trees.sepT (L.take (k + 1))) := by rw [hsk.out]; exact HT.out h1
          have hroom := room_text HS1.out HT2.out
          clear HT HR
          go_wp2
          exact ⟨⟨k + 1, s ++ x.text, by omega, rfl, by go_num, HT2.out, trivial⟩, by simp [intOf]; omega⟩
        · have HT2 : Hid (s ++ (⟨#[124]⟩ : ByteArray) = trees.sepT (L.take (k + 1))) := by rw [hsk.out]; exact HR.out h1
          have hroom := room_text HS1.out HT2.out
          have hbz : (⟨#[124]⟩ : ByteArray).size = 1 := rfl
          rw [hbz] at hroom
          clear HT HR hbz
          go_wp2
          exact ⟨⟨k + 1, s ++ (⟨#[124]⟩ : ByteArray), by omega, rfl, by go_num, HT2.out, trivial⟩, by simp [intOf]; omega⟩
      · obtain rfl : k = L.length := by omega
        have HSL : Hid (s = trees.sepT L) := by rw [hsk.out]; exact sep_all L
        clear hsk
        go_wp2
        go_loopw [6, 8] (fun q6 q8 wv => ∃ (k : Nat) (t : ByteArray), k ≤ M.length ∧ q6 = .string t ∧ q8 = .int .i64 k ∧ Hid (t = trees.sepT (M.take k)) ∧ Hid (wv = w2)) (fun _ q8 _ => M.length - (intOf q8).toNat)
        case atStart => exact ⟨0, ⟨#[]⟩, Nat.zero_le _, rfl, rfl, rfl, rfl⟩
        case round =>
          obtain ⟨k, t, hk, rfl, rfl, htk, hv⟩ := hrel
          have hv' : w2 = wr := (show wr = w2 from hv).symm
          subst hv'
          by_cases hlt : k < M.length
          · obtain ⟨b, off, e, hc⟩ := cells_of HN2.out hlt
            cases e
            simp only [Nat.zero_add] at hc
            obtain ⟨c0, c7⟩ := hc k hlt
            have HT : Hid _ := fun h1 => sep_text (L := M) hlt h1
            have HR : Hid _ := fun h1 => sep_bar (L := M) hlt h1
            have HA : Hid _ := HAL.out k hlt
            have HP : Hid (∀ j, k = j + 1 → _) := fun j e => (hc j (by omega)).1
            obtain ⟨x, hx⟩ : ∃ x, trees.kid M k = x := ⟨_, rfl⟩
            rw [hx] at c0 c7 HT HR HA
            clear hc hx
            by_cases h1 : x.kind = 2
            · have HT2 : Hid (t ++ x.text = trees.sepT (M.take (k + 1))) := by rw [htk.out]; exact HT.out h1
              have hroom := room_text HS2.out HT2.out
              obtain ⟨ha1, ha2⟩ := HA.out h1
              have hte := trees.text_ne ha1
              rcases k with _ | j
              · simp only [Nat.zero_mul, Nat.zero_add] at c0 c7
                have hl0 : (0 : Int) < M.length := by omega
                clear HT HR HA HP ha1 ha2
                go_wp2
                exact ⟨⟨1, t ++ x.text, by omega, rfl, by go_num, HT2.out, trivial⟩, by simp [intOf]; omega⟩
              · have hp := HP.out j rfl
                have hpk : ¬ (trees.kid M j).kind = 2 := ha2 (by omega)
                obtain ⟨y, hy⟩ : ∃ y, trees.kid M j = y := ⟨_, rfl⟩
                rw [hy] at hp hpk
                have hlt' : (j : Int) + 1 < M.length := by omega
                clear HT HR HA HP ha1 ha2 hy
                go_wp2
                exact ⟨⟨j + 1 + 1, t ++ x.text, by omega, rfl, by go_num, HT2.out, trivial⟩, by simp [intOf]; omega⟩
            · have HT2 : Hid (t ++ (⟨#[124]⟩ : ByteArray) = trees.sepT (M.take (k + 1))) := by rw [htk.out]; exact HR.out h1
              have hroom := room_text HS2.out HT2.out
              have hbz : (⟨#[124]⟩ : ByteArray).size = 1 := rfl
              rw [hbz] at hroom
              clear HT HR HA HP hbz
              go_wp2
              exact ⟨⟨k + 1, t ++ (⟨#[124]⟩ : ByteArray), by omega, rfl, by go_num, HT2.out, trivial⟩, by simp [intOf]; omega⟩
          · obtain rfl : k = M.length := by omega
            have hts : t = s := by rw [htk.out, sep_all, HSE.out, HSL.out]
            subst hts
            clear HSL htk
            go_wp2_with fail
            refine (merge_flat (trees.impl_merge 0 M _ c _ HS2.out HN2.out) HMM.out).mono ?_
            rintro e w3 ⟨⟨g3, c3, rfl, ho, hs⟩, hb⟩
            have HN3 : Hid (trees.NodesAt w3 0 (some ⟨g3, 0, none⟩) M) := ho.at (short_of HS2.out)
            have HN2' : Hid (trees.NodesAt w3 0 (some ⟨g, 0, none⟩) M) := HN2.out.below hb
            have HL3 : Hid (trees.NodesAt w3 0 ka L) := HL2.out.below hb
            have HB3 : Hid (Below w.heap.size w w3) := HB2.out.trans (hb.mono HB2.out.size)
            clear ho hs hb HB2 HL2 HN2
            go_wp2_with fail
            refine (trees.same_list 0 0 w3 _ _ M _ _ HN3.out HN2'.out).mono ?_
            rintro e w4 ⟨rfl, hb⟩
            have HN4 : Hid (trees.NodesAt w4 0 (some ⟨g, 0, none⟩) M) := HN2'.out.below hb
            have HL4 : Hid (trees.NodesAt w4 0 ka L) := HL3.out.below hb
            have HB4 : Hid (Below w.heap.size w w4) := HB3.out.trans (hb.mono HB3.out.size)
            clear hb HB3 HL3 HN3 HN2'
            go_wp2_with fail
            refine (merge_flat (trees.spec_merge 0 L ka kc w4 HS1.out HL4.out) HM.out).mono ?_
            rintro e w5 ⟨⟨g5, c5, rfl, ho, hs⟩, hb⟩
            have HN5 : Hid (trees.NodesAt w5 0 (some ⟨g5, 0, none⟩) M) := ho.at (short_of HS2.out)
            have HN5' : Hid (trees.NodesAt w5 0 (some ⟨g, 0, none⟩) M) := HN4.out.below hb
            have HB5 : Hid (Below w.heap.size w w5) := HB4.out.trans (hb.mono HB4.out.size)
            clear ho hs hb HB4 HL4 HN4
            go_wp2_with fail
            refine (trees.same_list 0 0 w5 _ _ M _ _ HN5'.out HN5.out).mono ?_
            rintro e w6 ⟨rfl, hb⟩
            have HB6 : Hid (Below w.heap.size w w6) := HB5.out.trans (hb.mono HB5.out.size)
            clear hb HB5 HN5 HN5'
            go_wp2
            go_ret
            exact ⟨rfl, HB6.out⟩
  · go_enter Try.func3, Try.ntmps3
    go_wp2_with fail
    refine (big_yes _ _ _ _ hz).mono ?_
    rintro e w' ⟨rfl, hw'⟩
    have hw2 := hw'.symm
    clear hw'
    subst hw2
    go_wp2
    go_ret
    exact ⟨rfl, Below.refl _ _⟩

/-! ### THE ROW's STEP: WRITTEN OUT: LEAVE IT -/
set_option maxRecDepth 100000 in
theorem lifted (os : Os) (started : os.Started) (H : Type) (enc : TypeId × Value → H) :
    ReturnsInHanded {} Try.checked os 3 .any (Rows.fnMergesSpec.pre6 enc Try.prog Try.f3 Rows.fnMergesRow.domain false) (Rows.fnMergesSpec.post enc Try.prog Try.f3 false true false false) := by
  refine returnsInHanded_of_change (C := Try.checked) own started (by kernel_rfl) Try.func3
    (ChangeSpec.witness6 (enc := enc) (C := Try.checked) false ⟨#[], #[.slice none 0 0], []⟩ 8 (by kernel_rfl) (by kernel_rfl) (by kernel_rfl) (by kernel_rfl)) ?_
  intro W base args ds gs before hval0 hW hcnd _
  have hval : ∀ (j : Nat) t v, Try.f3.params[j]? = some t → args[j]? = some v → Value.okWide Try.prog W .any base t v := hval0
  have hW' := hW
  obtain ⟨p, q, hA0, hV, rfl, hfz, hnd⟩ := hW
  have hA : DataW.TrodAll enc Try.prog W 0 (fun _ => true) true Try.f3.params.toList args.toList ds p := hA0
  rw [Try.params3] at hA hval
  obtain ⟨v0, vs0, d0, ds0, p0, q0, hargs, rfl, rfl, h0, r0⟩ := trodAll_cons hA
  obtain ⟨rfl, rfl, rfl⟩ := trodAll_nil r0
  obtain rfl : args = #[v0] := by cases args; simp_all
  obtain ⟨rfl, rfl⟩ := trodVars_none hV
  obtain ⟨a0, len0, cap0, rfl⟩ := okWide_slice Try.underlying22 (hval 0 22 v0 rfl rfl)
  have k0 := h0
  have lt0 : ∀ x ∈ p0, x.block < W.heap.size := by obtain ⟨m, hm⟩ := k0; exact DataW.trod_lt m _ _ _ hm
  obtain ⟨z0, w0⟩ : ∃ zs, IsRow .u8 W a0 len0 cap0 zs := by
    obtain ⟨fuel, hf⟩ := h0
    rcases open_ints Try.underlying22 Try.underlying5 (by kernel_rfl) hf with ⟨hcs, _⟩ | ⟨x, l, c, zs, hcs, _, hl, hm, hz, _, hcell, hwz⟩
    · simp [Value.cells] at hcs
      obtain ⟨rfl, rfl, rfl⟩ := hcs
      exact ⟨[], .inl ⟨rfl, rfl, rfl, rfl⟩⟩
    · simp [Value.cells] at hcs
      obtain ⟨rfl, rfl, rfl⟩ := hcs
      exact ⟨zs, .inr ⟨_, rfl, hl, hm, by simpa using hz, hcell, hwz⟩⟩
  clear hA0 hval0
  refine (walk a0 len0 cap0 z0 W w0).mono fun e W' ⟨he, bel⟩ => ?_
  subst he
  exact ⟨_, rfl, _, _, _, [], _, [], hW', trodAll_mk1 (shut_bool Try.underlying4 _), (trodAll_cons_mk (Below.trod laidOut (by kernel_rfl) (of_decide_eq_true (by kernel_rfl)) k0 bel lt0) trodAll_mk0), rfl, bel.frame _, fun h => by cases h⟩

theorem over : Rows.fnMergesRow.holds Try.pinned (OpenSpec.ofChange Rows.fnMergesSpec) :=
  OpenClaim.holds_of_wide 3 Try.f3 rfl rfl rfl rfl rfl rfl rfl ⟨rfl, rfl, rfl, rfl, rfl⟩ rfl rfl rfl rfl rfl (by kernel_rfl) Try.func3 (by kernel_rfl)
    (of_decide_eq_true (by kernel_rfl)) (by unfold Func.isWrapper; first | (rw [if_pos (by decide +kernel)]; kernel_rfl) | (rw [if_neg (by decide +kernel)]; exact ⟨rfl, rfl⟩))
    (fun os started H enc _ => lifted os started H enc)

/-- ████ THE STATEMENT ████ -/
theorem proved : Rows.FnMergesSaid := over
#print axioms proved
end Go.Proofs.Ytdpbiaomhndpcaa.fnMerges
