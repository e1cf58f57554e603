/-
  What the specification's l5Kids answers.
-/
import Derived.Test.YtmiiilamjbhheaaGreatDoorNodeRight
namespace Go.Proofs.YtmiiilamjbhheaaGreatDoor.trees
open Go.ChangeShapes Go.WideShapes Go.ChangeAt Go.RowKit
open pairs (Pair at0 PairsAt)
open scopes (xmlB textB declsB ret_bool)
set_option linter.unusedVariables false
set_option maxRecDepth 100000 in
set_option maxHeartbeats 2000000 in
theorem one_none (k : Int) (p l u x : ByteArray) (ds : List Pair) (ats : List Att) (ks : List Tree) (h : Hdr) (w : World) (h1 : (k == 1) = false) (h2 : (k == 2) = false) (h3 : (k == 3) = false) (h4 : (k == 4) = false) : OneOk (.mk k p l u x ds ats ks) h w false := by
  obtain ⟨da, dc, aa, ac, ka, kc⟩ := h
  unfold OneOk
  simp only [vals, Tree.kind, Tree.pre, Tree.loc, Tree.uri, Tree.text, Tree.ds, Tree.ats, Tree.kids]
  go_enter Tryz.func54, Tryz.ntmps54
  go_wp2
  go_ret
  exact ⟨rfl, (Below.refl _ _).alloc (Nat.le_refl _) _⟩
theorem spec_one (t : Tree) (h : Hdr) (B : Nat) (w : World) (hz : nsz t ≤ 1048576) (hn : NodeIn w B t h) : OneOk t h w (oneB t) := by
  obtain ⟨k, p, l, u, x, ds, ats, ks⟩ := t
  have hx : x.size ≤ 1048576 := by rw [nsz] at hz; omega
  have hl : l.size ≤ maxLen := hn.fit.2.2.1
  have hxl : x.size ≤ maxLen := by unfold maxLen; omega
  unfold oneB
  simp only [Tree.kind]
  cases h1 : (k == 1)
  · cases h2 : (k == 2)
    · cases h3 : (k == 3)
      · cases h4 : (k == 4)
        · exact one_none k p l u x ds ats ks h w h1 h2 h3 h4
        · obtain rfl : k = 4 := by simpa using h4
          exact one_told p l u x ds ats ks h w hl hx
      · obtain rfl : k = 3 := by simpa using h3
        exact one_note p l u x ds ats ks h w hl hx
    · obtain rfl : k = 2 := by simpa using h2
      exact one_text p l u x ds ats ks h w hxl
  · obtain rfl : k = 1 := by simpa using h1
    exact one_el p l u x ds ats ks h B w hn
/-- What l5Kids says of a list. -/
def KidsOk (L : List Tree) (a : Option Addr) (cap deep : Nat) (w : World) : Prop :=
  Calls Tryz.prog 41 #[.slice a L.length cap, .int .i64 deep] w fun e w' => e = .returned (.bool (kidsB L (7 - deep))) ∧ Below w.heap.size w w'
set_option maxRecDepth 100000 in
set_option maxHeartbeats 8000000 in
theorem spec_kids_of (n B : Nat) (ih : ∀ (L : List Tree) (a : Option Addr) (cap deep : Nat) (w : World), ksize L < n → deep ≤ 7 → (∀ i, i < L.length → nsz (kid L i) ≤ 1048576) → NodesAt w B a L → KidsOk L a cap deep w)
    (L : List Tree) (a : Option Addr) (cap deep : Nat) (w : World) (ht : ksize L ≤ n) (hd7 : deep ≤ 7) (hz : ∀ i, i < L.length → nsz (kid L i) ≤ 1048576) (hL : NodesAt w B a L) : KidsOk L a cap deep w := by
  have HL : Hid _ := hL
  have HZ : Hid (∀ i, i < L.length → nsz (kid L i) ≤ 1048576) := hz
  have HIH : Hid _ := ih
  have HKT : Hid (∀ i, i < L.length → ksize (kid L i).kids < n) := fun i hi => by
    have h1 := ksize_kid L i hi
    have h2 : tsize (kid L i) = 1 + ksize (kid L i).kids := by cases kid L i; rw [tsize]; rfl
    omega
  have hkk : L.length ≤ 9223372036854775807 := hL.short
  unfold KidsOk
  clear ih hL ht hz
  go_enter Tryz.func41, Tryz.ntmps41
  go_wp2
  go_loopw [5] (fun t wr => ∃ i : Nat, i ≤ L.length ∧ t = .int .i64 i ∧ Hid (∀ j, j < i → stepB L (7 - deep) j = true) ∧ Hid (Below w.heap.size w wr)) (fun t _ => L.length - (intOf t).toNat)
  case atStart => exact ⟨0, Nat.zero_le _, rfl, (fun j hj => by omega), Below.refl _ _⟩
  case round =>
    obtain ⟨i, hi, rfl, hup, hbw⟩ := hrel
    by_cases hlt : i < L.length
    · obtain ⟨b, off, ha, hblt, hc⟩ := (HL.out.below hbw.out).row (by omega)
      obtain ⟨h', hnode, hc0, hc1, hc2, hc3, hc4, hc5, hc6, hc7⟩ := hc i hlt
      have hE := fun o => spec_one (kid L i) h' B (wr.alloc o) (HZ.out i hlt) (hnode.below ((Below.refl _ _).alloc (Nat.le_refl _) o))
      unfold OneOk at hE
      unfold vals at hE
      have hks : ∀ W, Below wr.heap.size wr W → NodesAt W B h'.ka (kid L i).kids := fun W h => (kids_at hnode).below h
      have hkz : ∀ j, j < (kid L i).kids.length → nsz (kid (kid L i).kids j) ≤ 1048576 := fun j hj => by
        have h1 := nsz_kid (kid L i).kids j hj
        have h2 := HZ.out i hlt
        have h3 : nszs (kid L i).kids ≤ nsz (kid L i) := by cases kid L i; rw [nsz]; show nszs _ ≤ _; simp only [Tree.kids]; omega
        omega
      have hkn := HKT.out i hlt
      have hno : stepB L (7 - deep) i = false → kidsB L (7 - deep) = false := kids_no hlt
      have hmo := fun h => upto_more (f := fun i => stepB L (7 - deep) i) hup.out h
      have hst : stepB L (7 - deep) i = ((oneB (kid L i) && (!((kid L i).kind == 1) || (decide (7 - deep ≠ 0) && kidsB (kid L i).kids (7 - deep - 1)))) && !meetAt L i) := by
        unfold stepB
        have : nodeB (kid L i) (7 - deep) = (oneB (kid L i) && (!((kid L i).kind == 1) || (decide (7 - deep ≠ 0) && kidsB (kid L i).kids (7 - deep - 1)))) := by cases kid L i; exact nodeB_eq _ _ _ _ _ _ _ _ _
        rw [this]
      rw [hst] at hno hmo
      have hme : meetAt L i = (decide (0 < i) && (((kid L (i - 1)).kind == 2) && ((kid L i).kind == 2))) := rfl
      have hpc : ∀ W, Below wr.heap.size wr W → ∀ j, j < L.length → W.cell? ⟨b, off + j * 8, none⟩ = some (.int .i64 (kid L j).kind) := fun W h j hj => by
        obtain ⟨_, _, q0, _⟩ := hc j hj
        rw [h.cell (p := ⟨b, off + j * 8, none⟩) hblt]
        exact q0
      have hpk : (kid L i).kind = (kid L i).kind := rfl
      generalize hy : kid L i = y at hc0 hc1 hc2 hc3 hc4 hc5 hc6 hc7 hE hks hkz hkn hno hmo hst hme
      have HE : Hid (∀ o, _) := hE
      have HKS : Hid (∀ W, Below wr.heap.size wr W → _) := hks
      have HKZ : Hid _ := hkz
      have HKN : Hid _ := hkn
      have HNO : Hid (∀ h, _) := hno
      have HMO : Hid (∀ h, _) := hmo
      have HME : Hid _ := hme
      have HPC : Hid (∀ W, Below wr.heap.size wr W → ∀ j, j < L.length → W.cell? ⟨b, off + j * 8, none⟩ = some (.int .i64 (kid L j).kind)) := hpc
      subst ha
      clear hc hE hks hkz hkn hno hmo hst hme hpc hnode hpk hy
      go_wp2_with fail
      refine Calls.mono (HE.out _) ?_
      rintro e w2 ⟨rfl, hb2⟩
      have HX : Hid _ := box_kept hb2
      have HU : Hid _ := box_under hb2
      have HB2 : Hid _ := hbw.out.trans (HU.out.mono hbw.out.size)
      obtain ⟨b0, b1, b2, b3, b4, b5, b6, b7⟩ := box8 HX.out
      clear hb2 HE hc0 hc1 hc2 hc3 hc4 hc5 hc6 hc7
      cases ho : oneB y
      · have HF : Hid (kidsB L (7 - deep) = false) := HNO.out (by rw [ho]; rfl)
        go_wp2
        go_ret
        exact ⟨ret_bool HF.out.symm, HB2.out⟩
      · cases hk2 : (y.kind == 2)
        · have hm0 : meetAt L i = false := by rw [HME.out, hk2]; simp
          cases hk1 : (y.kind == 1)
          · have HUP : Hid _ := HMO.out (by rw [ho, hm0, hk1]; rfl)
            go_wp2
            go_roundw
            case rel => exact ⟨i + 1, by omega, by go_num, HUP.out, HB2.out⟩
            case measure => simp [intOf]; omega
          · by_cases hd : deep = 7
            · have HF : Hid (kidsB L (7 - deep) = false) := HNO.out (by rw [ho, hm0, hk1, hd]; rfl)
              have hdi : ((deep : Int) == 7) = true := by simp; omega
              clear hd
              go_wp2
              go_ret
              exact ⟨ret_bool HF.out.symm, HB2.out⟩
            · have hdi : ((deep : Int) == 7) = false := by simp; omega
              have hI := HIH.out y.kids h'.ka h'.kc (deep + 1) w2 HKN.out (by omega) HKZ.out (HKS.out w2 HU.out)
              unfold KidsOk at hI
              have hdc : ((deep + 1 : Nat) : Int) = (deep : Int) + 1 := by omega
              rw [hdc] at hI
              have hds : 7 - (deep + 1) = 7 - deep - 1 := by omega
              rw [hds] at hI
              have hdd : decide (7 - deep ≠ 0) = true := by simp; omega
              have HDD : Hid _ := hdd
              have HI : Hid _ := hI
              clear hI hdc hds hdd
              go_wp2_with fail
              refine Calls.mono HI.out ?_
              rintro e w3 ⟨rfl, hb3⟩
              have HB3 : Hid _ := HB2.out.trans (hb3.mono HB2.out.size)
              clear hb3 HI b0 b1 b2 b3 b4 b5 b6 b7
              cases hkb : kidsB y.kids (7 - deep - 1)
              · have HF : Hid (kidsB L (7 - deep) = false) := HNO.out (by rw [ho, hm0, hk1, hkb]; simp)
                go_wp2
                go_ret
                exact ⟨ret_bool HF.out.symm, HB3.out⟩
              · have HUP : Hid _ := HMO.out (by rw [ho, hm0, hk1, hkb, HDD.out]; rfl)
                go_wp2
                go_roundw
                case rel => exact ⟨i + 1, by omega, by go_num, HUP.out, HB3.out⟩
                case measure => simp [intOf]; omega
        · have hk1 : (y.kind == 1) = false := by rw [beq_iff_eq] at hk2; rw [hk2]; rfl
          by_cases hz : 0 < i
          · obtain ⟨j, rfl⟩ : ∃ j, i = j + 1 := ⟨i - 1, by omega⟩
            have hpj := HPC.out w2 HU.out j (by omega)
            have hme := HME.out
            rw [show j + 1 - 1 = j by omega, decide_eq_true hz, Bool.true_and, hk2, Bool.and_true] at hme
            have hsub : IntKind.i64.wrap (((j + 1 : Nat) : Int) - 1) = (j : Int) := by rw [IntKind.wrap_i64]; omega
            have hjlt : (j : Int) < L.length := by omega
            have hj0 : (0 : Int) < ((j + 1 : Nat) : Int) := by omega
            generalize (kid L j).kind = pk at hpj hme
            cases hp : (pk == 2)
            · have HUP : Hid _ := HMO.out (by rw [ho, hk1, hme, hp]; rfl)
              clear hme
              go_wp2
              go_roundw
              case rel => exact ⟨j + 1 + 1, by omega, by go_num, HUP.out, HB2.out⟩
              case measure => simp [intOf]; omega
            · have HF : Hid (kidsB L (7 - deep) = false) := HNO.out (by rw [ho, hk1, hme, hp]; rfl)
              clear hme
              go_wp2
              go_ret
              exact ⟨ret_bool HF.out.symm, HB2.out⟩
          · obtain rfl : i = 0 := by omega
            have HUP : Hid _ := HMO.out (by rw [ho, hk1]; rfl)
            go_wp2
            go_roundw
            case rel => exact ⟨0 + 1, by omega, by go_num, HUP.out, HB2.out⟩
            case measure => simp [intOf]; omega
    · have HF : Hid (kidsB L (7 - deep) = true) := kids_yes fun j hj => hup.out j (by omega)
      go_wp2
      go_ret
      exact ⟨ret_bool HF.out.symm, hbw.out⟩
theorem spec_kids (B : Nat) : ∀ n, ∀ (L : List Tree) (a : Option Addr) (cap deep : Nat) (w : World), ksize L < n → deep ≤ 7 → (∀ i, i < L.length → nsz (kid L i) ≤ 1048576) → NodesAt w B a L → KidsOk L a cap deep w
  | 0, L, a, cap, deep, w, ht, _, _, _ => by omega
  | n + 1, L, a, cap, deep, w, ht, hd, hz, hL => spec_kids_of n B (fun L a cap deep w ht hd hz hL => spec_kids B n L a cap deep w ht hd hz hL) L a cap deep w (by omega) hd hz hL
end Go.Proofs.YtmiiilamjbhheaaGreatDoor.trees
