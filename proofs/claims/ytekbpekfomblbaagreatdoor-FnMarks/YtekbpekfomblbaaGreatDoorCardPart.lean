/-
  For every draw the law FnMarks returns true: which mark stands where is as the document has it, it goes on behind it, and what it holds may stand; the program's tables being what its text lays, utf8's table what Go pins (the tied card). No condition.
  The frame is after the kit's guide (MapyProofs, UptoLaidToy); the walk is ours.
  (Texts of ours laid as one: MarkEnds, ErrLaid, DrawMarks, CardMarks.)
-/
import Derived.Test.YtekbpekfomblbaaGreatDoorSpecPart
import Derived.Laws.StructEq
import Derived.Test.YtekbpekfomblbaaGreatDoorParseUint
import Derived.Stop.LaidErr
import Derived.Test.YtekbpekfomblbaaGreatDoorDrawPart
import Derived.Test.YtekbpekfomblbaaGreatDoorCards
import Derived.Test.YtekbpekfomblbaaGreatDoorTie
import Derived.Test.YtekbpekfomblbaaGreatDoorReadPart
import Derived.WalkKit
import Derived.ProofKit
import Derived.OpenShut
import Derived.ShutString
import Derived.ChangeOld
import Derived.Below
import Derived.LaidMore
import Derived.OpenVars
import Derived.Stop.Joined
namespace Go.Proofs.YtekbpekfomblbaaGreatDoor.cuts
open Go.RowKit
open names (splitT nameE)
open marks (blanksE)
open pairs (Pair at0 PairsAt)
set_option linter.unusedVariables false
set_option linter.unusedSimpArgs false
theorem toldE_ends {s n x : ByteArray} {a j : Nat} (h : toldE s a = some (n, x, j)) (ha : a + 2 ≤ s.size) : a < j ∧ j ≤ s.size := by
  have hk := nameE_ge s (a + 2)
  have hb := blanksE_ge s (nameE s (a + 2))
  unfold toldE at h
  split at h
  · split at h
    · rename_i h1 h2
      cases h
      have h3 : nameE s (a + 2) + 2 ≤ s.size := isAt_le h2
      exact ⟨by omega, h3⟩
    · split at h
      · cases h
      · split at h
        · cases h
        · rename_i hj
          cases h
          have h3 := toF_ge hj
          have h4 : (⟨#[63, 62]⟩ : ByteArray).size = 2 := rfl
          rw [h4] at h3
          exact ⟨by omega, by omega⟩
  · cases h
theorem upE_ends {s t : ByteArray} {b j : Nat} {k : Int} {m : MarkV} (h : upE s t b k = some (m, j)) : b ≤ j ∧ j ≤ s.size := by
  unfold upE at h
  split at h
  · cases h
  · rename_i hj
    cases h
    have h3 := toF_ge hj
    exact ⟨by omega, by omega⟩
theorem tillE_gt {s : ByteArray} {a : Nat} (ha : a < s.size) (h : isAt s ⟨#[60]⟩ a = false) : a < tillE s a := by
  unfold tillE
  cases hj : toI s ⟨#[60]⟩ a with
  | none => exact ha
  | some j =>
    obtain ⟨h1, h2, _⟩ := toI_some hj
    show a < j
    by_cases e : j = a
    · rw [e, h] at h2; cases h2
    · omega
theorem markE_ends {s : ByteArray} {a j : Nat} {L : List Pair} {m : MarkV} (h : markE s a L = some (m, j)) (hs : s.size ≤ 1048576) (ha : a < s.size) : a < j ∧ j ≤ s.size := by
  unfold markE at h
  split at h
  · rename_i h1
    have := upE_ends h
    omega
  · split at h
    · rename_i h2
      have hle : a + 2 ≤ s.size := isAt_le h2
      unfold tldE at h
      split at h
      · cases h
      · rename_i ht
        cases h
        exact toldE_ends ht hle
    · split at h
      · rename_i h3
        have hle : a + 2 ≤ s.size := isAt_le h3
        unfold closeE at h
        split at h
        · split at h
          · rename_i h4
            cases h
            have h5 : blanksE s (nameE s (a + 2)) + 1 ≤ s.size := isAt_le h4
            have h6 := nameE_ge s (a + 2)
            have h7 := blanksE_ge s (nameE s (a + 2))
            exact ⟨by omega, h5⟩
          · cases h
        · cases h
      · split at h
        · have := upE_ends h
          omega
        · split at h
          · unfold openE at h
            split at h
            · split at h
              · cases h
              · rename_i ho
                cases h
                have hf := openF_fit hs ho (ends_le s _ _ (by omega)) (Nat.zero_le _) rfit_nil
                have h6 := nameE_ge s (a + 1)
                exact ⟨by omega, hf.2.2.2⟩
            · cases h
          · rename_i h5
            unfold betweenE at h
            split at h
            · cases h
              have h6 : isAt s ⟨#[60]⟩ a = false := by cases hb : isAt s ⟨#[60]⟩ a with | false => rfl | true => exact absurd hb h5
              exact ⟨tillE_gt ha h6, (tillE_le s a (by omega)).2⟩
            · cases h
where
  tillE_le (s : ByteArray) (a : Nat) (h : a ≤ s.size) : a ≤ tillE s a ∧ tillE s a ≤ s.size := by
    unfold tillE
    cases hj : toI s ⟨#[60]⟩ a with
    | none => exact ⟨h, Nat.le_refl _⟩
    | some j => have := toF_ge hj; show a ≤ j ∧ j ≤ s.size; exact ⟨this.1, by omega⟩
theorem markR_ends {s : ByteArray} {a : Int} {j : Nat} {L : List Pair} {m : MarkV} (h : markR s a L = some (m, j)) (hs : s.size ≤ 1048576) : a < (j : Int) ∧ j ≤ s.size ∧ refs.textB m.text = true := by
  unfold markR at h
  split at h
  · rename_i hc
    unfold markT at h
    split at h
    · cases h
    · rename_i hm
      split at h
      · rename_i ht
        cases h
        have := markE_ends hm hs (by omega)
        exact ⟨by omega, this.2, ht⟩
      · cases h
  · cases h
set_option maxRecDepth 100000 in
theorem neq_raw (w : World) (n v n' v' : ByteArray) : (binOp .neq 33 (.agg #[.string n, .string v]) (.agg #[.string n', .string v'])).run Tryz.prog w = .ok (.bool (!((n.toList == n'.toList) && (v.toList == v'.toList)))) w := by
  have hu : Tryz.prog.underlying 33 = some (.struct (Tryz.prog.fieldsOf 33)) := by kernel_rfl
  have hp : Tryz.prog.stoodInHeld 33 = false := by kernel_rfl
  rw [run_neq_struct, show (10000 : Nat) = 9999 + 1 from rfl, run_equalIn_agg _ _ _ _ _ hu hp]
  obtain ⟨f0, f1, hf, o0, o1, t0, t1, m0, m1⟩ : ∃ f0 f1 : Field, (Tryz.prog.fieldsOf 33).toList = [f0, f1] ∧ f0.offset = 0 ∧ f1.offset = 1 ∧ f0.type = 9 ∧ f1.type = 9 ∧ f0.name ≠ "_" ∧ f1.name ≠ "_" := ⟨_, _, rfl, rfl, rfl, rfl, rfl, by decide, by decide⟩
  have e0 : ∀ (a0 a1 : ByteArray) (w : World), (part 9 #[.string a0, .string a1] 0).run Tryz.prog w = .ok (.string a0) w := fun a0 a1 w => by simp [go_sem]; try rfl
  have e1 : ∀ (a0 a1 : ByteArray) (w : World), (part 9 #[.string a0, .string a1] 1).run Tryz.prog w = .ok (.string a1) w := fun a0 a1 w => by simp [go_sem]; try rfl
  have q : ∀ (a b : ByteArray) (w : World), (Op.equalIn 9999 9 (.string a) (.string b)).run Tryz.prog w = .ok (a.toList == b.toList) w := fun a b w => run_equalIn_string w 9998 9 a b Tryz.underlying9
  rw [hf]
  simp only [Op.eqFields, ne_eq, m0, m1, not_false_eq_true, if_true, o0, o1, t0, t1, Sem.run_bind, e0, q, Result.andThen_ok]
  cases h0 : (n.toList == n'.toList) <;> cases h1 : (v.toList == v'.toList) <;> simp [e1, q, h1]
theorem guard_raw (w : World) (op : BinOp) (x y : Operand) (xs ys : Array Value) : (eqGuard op 33 x y (.agg xs) (.agg ys)).run Tryz.prog w = .ok () w := run_eqGuard_agg _ _ _ _ _ _ _ (by kernel_rfl)
end Go.Proofs.YtekbpekfomblbaaGreatDoor.cuts
namespace Go.Proofs.YtekbpekfomblbaaGreatDoor.parseu
open Go.RowKit Go.ChangeShapes
set_option linter.unusedVariables false
theorem star : "*" ++ "errors.errorString" = "*errors.errorString" := by decide
theorem rowE (u : TypeId) (h : Tryz.prog.typeName? 3 u = some "*errors.errorString") : u = 137 :=
  typeName_ptr_named (nm := "errors.errorString") (by rw [star]; kernel_rfl) (by kernel_rfl) (by decide) u (by rw [star]; exact h)
theorem err_of {text : List UInt8} {r : List (String × DataW Unit)} {W : World} (h : laidMet Tryz.prog (("strconv.ErrSyntax", .iface "*errors.errorString" (.ptr (.agg [.lit (.string text)]))) :: r) W) : ErrAt W := by
  have hg : Tryz.prog.globalNamed "strconv.ErrSyntax" = some 7 := by kernel_rfl
  obtain ⟨a, s, hv, _⟩ := laid_sentinel h hg (ti := 114) (by kernel_rfl) Tryz.underlying114 rowE Tryz.underlying137 Tryz.underlying139 rfl rfl Tryz.underlying9 (by kernel_rfl) (by kernel_rfl)
  have hc := World.var?_cell hg hv 0
  exact ⟨_, by simpa using hc, .inr ⟨_, _, rfl⟩⟩
theorem err_at {laid : List (String × DataW Unit)} {W : World} (h : laidMet Tryz.prog laid W) {text : List UInt8} : ∀ (k : Nat), laid[k]? = some ("strconv.ErrSyntax", .iface "*errors.errorString" (.ptr (.agg [.lit (.string text)]))) → ErrAt W
  | k, hk => by
    induction k generalizing laid with
    | zero =>
      match laid, hk, h with
      | x :: r, hk, h =>
        obtain rfl := Option.some.inj hk
        exact err_of h
    | succ k ih =>
      match laid, hk, h with
      | x :: r, hk, h => exact ih (laidMet.tail h) (by simpa using hk)
end Go.Proofs.YtekbpekfomblbaaGreatDoor.parseu
namespace Go.Proofs.YtekbpekfomblbaaGreatDoor.draws
open Go.ChangeShapes Go.WideShapes Go.ChangeAt Go.RowKit
open pairs (Pair at0 PairsAt)
set_option linter.unusedVariables false
def mtextL : List ByteArray := [⟨#[60, 97, 62]⟩, ⟨#[60, 97, 47, 62]⟩, ⟨#[60, 47, 97, 62]⟩, ⟨#[60, 47, 97, 32, 62]⟩, ⟨#[60, 32, 97, 62]⟩, ⟨#[60, 97, 32, 98, 61, 39, 49, 39, 62]⟩, ⟨#[60, 97, 32, 98, 61, 34, 49, 34, 32, 99, 32, 61, 32, 39, 50, 39, 32, 47, 62]⟩, ⟨#[60, 97, 32, 98, 61, 39, 49, 39, 99, 61, 39, 50, 39, 62]⟩, ⟨#[60, 97, 32, 98, 62]⟩, ⟨#[60, 97, 32, 98, 61, 39, 60, 39, 62]⟩, ⟨#[60, 97, 32, 98, 61, 39, 38, 108, 116, 59, 10, 38, 35, 49, 48, 59, 39, 62]⟩, ⟨#[60, 33, 45, 45, 110, 45, 45, 62]⟩, ⟨#[60, 33, 45, 45, 62]⟩, ⟨#[60, 33, 45, 45, 45, 62]⟩, ⟨#[60, 33, 45, 45, 32, 45, 45, 32, 45, 45, 62]⟩, ⟨#[60, 63, 116, 63, 62]⟩, ⟨#[60, 63, 116, 32, 103, 111, 63, 62]⟩, ⟨#[60, 63, 116, 32, 32, 103, 111, 32, 63, 62]⟩, ⟨#[60, 63, 116, 103, 111]⟩, ⟨#[60, 63, 32, 116, 63, 62]⟩, ⟨#[60, 33, 91, 67, 68, 65, 84, 65, 91, 60, 38, 93, 93, 62]⟩, ⟨#[60, 33, 91, 67, 68, 65, 84, 65, 91, 93, 93, 62]⟩, ⟨#[60, 33, 91, 67, 68, 65, 84, 65, 91, 93, 93]⟩, ⟨#[116, 101, 120, 116]⟩, ⟨#[97, 38, 97, 109, 112, 59, 98]⟩, ⟨#[97, 93, 93, 62, 98]⟩, ⟨#[38, 101, 59]⟩, ⟨#[38, 110, 111, 112, 101, 59]⟩, ⟨#[60, 112, 58, 97, 32, 120, 109, 108, 110, 115, 58, 112, 61, 39, 117, 39, 62]⟩, ⟨#[60, 97, 58, 98, 58, 99, 47, 62]⟩, ⟨#[60, 97]⟩, ⟨#[60]⟩, ⟨#[60, 97, 32, 98, 61, 39, 38, 101, 59, 39, 47, 62]⟩, ⟨#[60, 33, 68, 79, 67, 84, 89, 80, 69, 32, 97, 62]⟩, ⟨#[60, 47, 97]⟩, ⟨#[60, 97, 32, 98, 61, 39, 49, 34, 62]⟩]
theorem mtextL_size : ∀ s ∈ mtextL, s.size ≤ 19 := by
  intro s hs
  simp only [mtextL, List.mem_cons, List.mem_nil_iff, or_false] at hs
  rcases hs with rfl | rfl | rfl | rfl | rfl | rfl | rfl | rfl | rfl | rfl | rfl | rfl | rfl | rfl | rfl | rfl | rfl | rfl | rfl | rfl | rfl | rfl | rfl | rfl | rfl | rfl | rfl | rfl | rfl | rfl | rfl | rfl | rfl | rfl | rfl | rfl <;> decide
set_option maxRecDepth 100000 in
theorem mtext_list (w : World) (cb len cap : Nat) (a : Option Addr) (hc : CurAt w cb a len cap) :
    Calls Tryz.prog 13 #[.pointer (some ⟨cb, 0, none⟩), .slice (some ⟨w.heap.size, 0, none⟩) 36 36] (w.alloc (.cells #[.string ⟨#[60, 97, 62]⟩, .string ⟨#[60, 97, 47, 62]⟩, .string ⟨#[60, 47, 97, 62]⟩, .string ⟨#[60, 47, 97, 32, 62]⟩, .string ⟨#[60, 32, 97, 62]⟩, .string ⟨#[60, 97, 32, 98, 61, 39, 49, 39, 62]⟩, .string ⟨#[60, 97, 32, 98, 61, 34, 49, 34, 32, 99, 32, 61, 32, 39, 50, 39, 32, 47, 62]⟩, .string ⟨#[60, 97, 32, 98, 61, 39, 49, 39, 99, 61, 39, 50, 39, 62]⟩, .string ⟨#[60, 97, 32, 98, 62]⟩, .string ⟨#[60, 97, 32, 98, 61, 39, 60, 39, 62]⟩, .string ⟨#[60, 97, 32, 98, 61, 39, 38, 108, 116, 59, 10, 38, 35, 49, 48, 59, 39, 62]⟩, .string ⟨#[60, 33, 45, 45, 110, 45, 45, 62]⟩, .string ⟨#[60, 33, 45, 45, 62]⟩, .string ⟨#[60, 33, 45, 45, 45, 62]⟩, .string ⟨#[60, 33, 45, 45, 32, 45, 45, 32, 45, 45, 62]⟩, .string ⟨#[60, 63, 116, 63, 62]⟩, .string ⟨#[60, 63, 116, 32, 103, 111, 63, 62]⟩, .string ⟨#[60, 63, 116, 32, 32, 103, 111, 32, 63, 62]⟩, .string ⟨#[60, 63, 116, 103, 111]⟩, .string ⟨#[60, 63, 32, 116, 63, 62]⟩, .string ⟨#[60, 33, 91, 67, 68, 65, 84, 65, 91, 60, 38, 93, 93, 62]⟩, .string ⟨#[60, 33, 91, 67, 68, 65, 84, 65, 91, 93, 93, 62]⟩, .string ⟨#[60, 33, 91, 67, 68, 65, 84, 65, 91, 93, 93]⟩, .string ⟨#[116, 101, 120, 116]⟩, .string ⟨#[97, 38, 97, 109, 112, 59, 98]⟩, .string ⟨#[97, 93, 93, 62, 98]⟩, .string ⟨#[38, 101, 59]⟩, .string ⟨#[38, 110, 111, 112, 101, 59]⟩, .string ⟨#[60, 112, 58, 97, 32, 120, 109, 108, 110, 115, 58, 112, 61, 39, 117, 39, 62]⟩, .string ⟨#[60, 97, 58, 98, 58, 99, 47, 62]⟩, .string ⟨#[60, 97]⟩, .string ⟨#[60]⟩, .string ⟨#[60, 97, 32, 98, 61, 39, 38, 101, 59, 39, 47, 62]⟩, .string ⟨#[60, 33, 68, 79, 67, 84, 89, 80, 69, 32, 97, 62]⟩, .string ⟨#[60, 47, 97]⟩, .string ⟨#[60, 97, 32, 98, 61, 39, 49, 34, 62]⟩] 9)) fun e w' => ∃ s, s ∈ mtextL ∧ e = .returned (.string s) ∧ CurAt w' cb a len cap ∧ ButFor cb w w' :=
  str_new w cb len cap 36 36 a mtextL _ 9 rfl rfl (by decide) (by decide) hc
def mheadL : List ByteArray := [⟨#[]⟩, ⟨#[]⟩, ⟨#[120]⟩, ⟨#[32]⟩]
theorem mheadL_size : ∀ s ∈ mheadL, s.size ≤ 1 := by
  intro s hs
  simp only [mheadL, List.mem_cons, List.mem_nil_iff, or_false] at hs
  rcases hs with rfl | rfl | rfl | rfl <;> decide
set_option maxRecDepth 100000 in
theorem mhead_list (w : World) (cb len cap : Nat) (a : Option Addr) (hc : CurAt w cb a len cap) :
    Calls Tryz.prog 13 #[.pointer (some ⟨cb, 0, none⟩), .slice (some ⟨w.heap.size, 0, none⟩) 4 4] (w.alloc (.cells #[.string ⟨#[]⟩, .string ⟨#[]⟩, .string ⟨#[120]⟩, .string ⟨#[32]⟩] 9)) fun e w' => ∃ s, s ∈ mheadL ∧ e = .returned (.string s) ∧ CurAt w' cb a len cap ∧ ButFor cb w w' :=
  str_new w cb len cap 4 4 a mheadL _ 9 rfl rfl (by decide) (by decide) hc
def mblankL : List ByteArray := [⟨#[]⟩, ⟨#[32]⟩, ⟨#[97, 32, 10, 9, 98]⟩, ⟨#[32, 32, 32]⟩, ⟨#[13, 10, 97]⟩]
theorem mblankL_size : ∀ s ∈ mblankL, s.size ≤ 5 := by
  intro s hs
  simp only [mblankL, List.mem_cons, List.mem_nil_iff, or_false] at hs
  rcases hs with rfl | rfl | rfl | rfl | rfl <;> decide
set_option maxRecDepth 100000 in
theorem mblank_list (w : World) (cb len cap : Nat) (a : Option Addr) (hc : CurAt w cb a len cap) :
    Calls Tryz.prog 13 #[.pointer (some ⟨cb, 0, none⟩), .slice (some ⟨w.heap.size, 0, none⟩) 5 5] (w.alloc (.cells #[.string ⟨#[]⟩, .string ⟨#[32]⟩, .string ⟨#[97, 32, 10, 9, 98]⟩, .string ⟨#[32, 32, 32]⟩, .string ⟨#[13, 10, 97]⟩] 9)) fun e w' => ∃ s, s ∈ mblankL ∧ e = .returned (.string s) ∧ CurAt w' cb a len cap ∧ ButFor cb w w' :=
  str_new w cb len cap 5 5 a mblankL _ 9 rfl rfl (by decide) (by decide) hc
theorem mplace_list (w : World) (cb len cap : Nat) (a : Option Addr) (hc : CurAt w cb a len cap) :
    Calls Tryz.prog 17 #[.pointer (some ⟨cb, 0, none⟩), .slice (some ⟨w.heap.size, 0, none⟩) 6 6] (w.alloc (.cells #[.int .i64 0, .int .i64 0, .int .i64 0, .int .i64 0, .int .i64 1, .int .i64 (-9)] 3)) fun e w' => ∃ z, z ∈ [0, 0, 0, 0, 1, -9] ∧ e = .returned (.int .i64 z) ∧ CurAt w' cb a len cap ∧ ButFor cb w w' :=
  int_new w cb len cap 6 6 a [0, 0, 0, 0, 1, -9] _ 3 rfl rfl (by decide) (by decide) hc
theorem under_m {w w1 w2 : World} {cb : Nat} (h : Below w.heap.size w w1) (hcb : cb = w.heap.size) (hc : cb < w1.heap.size) (hb : ButFor cb w1 w2) : Below w.heap.size w w2 :=
  h.trans (hb.below (by omega) (Nat.le_of_lt hc))
theorem mtext_end {w w' : World} {cb len cap : Nat} {a : Option Addr} {s : ByteArray} (hs : s.size ≤ 19) (hc : CurAt w' cb a len cap) (hb : ButFor cb w w') : ∃ s' : ByteArray, Ending.returned (.string s) = .returned (.string s') ∧ s'.size ≤ 19 ∧ CurAt w' cb a len cap ∧ ButFor cb w w' := ⟨s, rfl, hs, hc, hb⟩
set_option maxRecDepth 100000 in
set_option maxHeartbeats 2000000 in
theorem l6text (w : World) (cb len cap : Nat) (a : Option Addr) (HC : Hid (CurAt w cb a len cap)) : Calls Tryz.prog 14 #[.pointer (some ⟨cb, 0, none⟩)] w fun e w' => ∃ s : ByteArray, e = .returned (.string s) ∧ s.size ≤ 19 ∧ CurAt w' cb a len cap ∧ ButFor cb w w' := by
  go_enter Tryz.func14, Tryz.ntmps14
  go_wp2_with fail
  refine (mtext_list _ _ _ _ _ HC.out).mono ?_
  rintro e w1 ⟨s, hs, rfl, hc1, hb1⟩
  have hsz := mtextL_size s hs
  have HC1 : Hid _ := hc1
  have HB1 : Hid _ := hb1
  clear hc1 hb1 hs
  go_wp2
  go_ret
  exact mtext_end hsz HC1.out HB1.out
theorem mark_ret {w wr : World} {a' : Option Addr} {L : List Pair} {cap' : Nat} {s : ByteArray} {z : Int} (hs : s.size ≤ 800) (hp : PairsAt wr a' L) (hf : Fine L) (hl : L.length ≤ 7) (hz : -20 ≤ z ∧ z ≤ 20) (hb : Below w.heap.size w wr) :
    ∃ (s' : ByteArray) (z' : Int) (a2 : Option Addr) (L2 : List Pair) (c2 : Nat), Ending.returned (.tuple #[.string s, .int .i64 z, .slice a' L.length cap']) = .returned (.tuple #[.string s', .int .i64 z', .slice a2 L2.length c2]) ∧ s'.size ≤ 800 ∧ (-20 ≤ z' ∧ z' ≤ 20) ∧ PairsAt wr a2 L2 ∧ Fine L2 ∧ L2.length ≤ 7 ∧ Below w.heap.size w wr := ⟨s, z, a', L, cap', rfl, hs, hz, hp, hf, hl, hb⟩
theorem place_in {z : Int} (h : z ∈ [0, 0, 0, 0, 1, -9]) : -9 ≤ z ∧ z ≤ 1 := by
  simp only [List.mem_cons, List.mem_nil_iff, or_false] at h
  omega
set_option maxRecDepth 100000 in
set_option maxHeartbeats 4000000 in
theorem drawMarkAt (w : World) (len cap : Nat) (a : Option Addr) (hz : len ≤ 1048576) (hr : Hid (RowAt w a len)) : Calls Tryz.prog 5 #[.slice a len cap] w fun e w' => ∃ (s : ByteArray) (z : Int) (a' : Option Addr) (L : List Pair) (cap' : Nat), e = .returned (.tuple #[.string s, .int .i64 z, .slice a' L.length cap']) ∧ s.size ≤ 800 ∧ (-20 ≤ z ∧ z ≤ 20) ∧ PairsAt w' a' L ∧ Fine L ∧ L.length ≤ 7 ∧ Below w.heap.size w w' := by
  go_enter Tryz.func5, Tryz.ntmps5
  go_wp2_with fail
  refine (new_any _ _ _ _ hz hr).mono ?_
  rintro e w1 ⟨cb, rfl, hcb, hc1, hb1⟩
  have HC1 : Hid _ := hc1
  have HB1 : Hid _ := hb1
  have HCB : Hid _ := hcb
  clear hc1 hb1 hcb hr
  go_wp2_with fail
  refine (mhead_list _ _ _ _ _ HC1.out).mono ?_
  rintro e w2 ⟨x, hx, rfl, hc2, hb2⟩
  have hxz := mheadL_size x hx
  have HC2 : Hid _ := hc2
  have HBB2 : Hid _ := hb2
  clear hc2 hb2 hx
  go_wp2_with fail
  refine (l6text _ _ _ _ _ HC2).mono ?_
  rintro e w3 ⟨t1, rfl, ht1, hc3, hb3⟩
  have HC3 : Hid _ := hc3
  have HBB3 : Hid _ := HBB2.out.trans hb3
  clear hc3 hb3
  go_wp2_with fail
  refine (l6text _ _ _ _ _ HC3).mono ?_
  rintro e w4 ⟨t2, rfl, ht2, hc4, hb4⟩
  have HC4 : Hid _ := hc4
  have HBB4 : Hid _ := HBB3.out.trans hb4
  have h12 : (x ++ t1).size ≤ 100 := by rw [ByteArray.size_append]; omega
  have h123 : (x ++ t1 ++ t2).size ≤ 700 := by rw [ByteArray.size_append]; omega
  clear hc4 hb4
  go_wp2_with fail
  refine (once_any _ _ _ _ _ _ (by omega) HC4).mono ?_
  rintro e w5 ⟨q, rfl, hc5, hb5⟩
  have HC5 : Hid _ := hc5
  have HBB5 : Hid _ := HBB4.out.trans hb5
  clear hc5 hb5
  cases q
  · go_wp2_with fail
    refine (mplace_list _ _ _ _ _ HC5.out).mono ?_
    rintro e w7 ⟨z, hz7, rfl, hc7, hb7⟩
    have hzr := place_in hz7
    have HC7 : Hid _ := hc7
    have HBB7 : Hid _ := HBB5.out.trans hb7
    clear hc7 hb7 hz7
    go_wp2_with fail
    refine (l3ents _ _ _ _ _ HC7).mono ?_
    rintro e w8 ⟨a', L, cap', rfl, hp, hf, hl, hc8, hb8⟩
    have HP : Hid _ := hp
    have HF : Hid _ := hf
    have HB8 : Hid _ := under_m HB1.out HCB.out HC1.out.here (HBB7.out.trans hb8)
    clear hp hf hc8 hb8
    go_wp2
    go_ret3
    exact mark_ret (by omega) HP.out HF.out hl (by omega) HB8.out
  · go_wp2_with fail
    refine (bend_any _ _ _ _ _ (x ++ t1 ++ t2) h123 HC5.out).mono ?_
    rintro e w6 ⟨u, rfl, hu, hc6, hb6⟩
    have HC6 : Hid _ := hc6
    have HBB6 : Hid _ := HBB5.out.trans hb6
    clear hc6 hb6
    go_wp2_with fail
    refine (mplace_list _ _ _ _ _ HC6.out).mono ?_
    rintro e w7 ⟨z, hz7, rfl, hc7, hb7⟩
    have hzr := place_in hz7
    have HC7 : Hid _ := hc7
    have HBB7 : Hid _ := HBB6.out.trans hb7
    clear hc7 hb7 hz7
    go_wp2_with fail
    refine (l3ents _ _ _ _ _ HC7).mono ?_
    rintro e w8 ⟨a', L, cap', rfl, hp, hf, hl, hc8, hb8⟩
    have HP : Hid _ := hp
    have HF : Hid _ := hf
    have HB8 : Hid _ := under_m HB1.out HCB.out HC1.out.here (HBB7.out.trans hb8)
    clear hp hf hc8 hb8
    go_wp2
    go_ret3
    exact mark_ret hu HP.out HF.out hl (by omega) HB8.out
theorem blank_ret {w wr : World} {s : ByteArray} {z : Int} (hs : s.size ≤ 40) (hz : -20 ≤ z ∧ z ≤ 20) (hb : Below w.heap.size w wr) :
    ∃ (s' : ByteArray) (z' : Int), Ending.returned (.tuple #[.string s, .int .i64 z]) = .returned (.tuple #[.string s', .int .i64 z']) ∧ s'.size ≤ 40 ∧ (-20 ≤ z' ∧ z' ≤ 20) ∧ Below w.heap.size w wr := ⟨s, z, rfl, hs, hz, hb⟩
set_option maxRecDepth 100000 in
set_option maxHeartbeats 4000000 in
theorem drawBlanks (w : World) (len cap : Nat) (a : Option Addr) (hz : len ≤ 1048576) (hr : Hid (RowAt w a len)) : Calls Tryz.prog 9 #[.slice a len cap] w fun e w' => ∃ (s : ByteArray) (z : Int), e = .returned (.tuple #[.string s, .int .i64 z]) ∧ s.size ≤ 40 ∧ (-20 ≤ z ∧ z ≤ 20) ∧ Below w.heap.size w w' := by
  go_enter Tryz.func9, Tryz.ntmps9
  go_wp2_with fail
  refine (new_any _ _ _ _ hz hr).mono ?_
  rintro e w1 ⟨cb, rfl, hcb, hc1, hb1⟩
  have HC1 : Hid _ := hc1
  have HB1 : Hid _ := hb1
  have HCB : Hid _ := hcb
  clear hc1 hb1 hcb hr
  go_wp2_with fail
  refine (mblank_list _ _ _ _ _ HC1.out).mono ?_
  rintro e w2 ⟨x, hx, rfl, hc2, hb2⟩
  have hxz := mblankL_size x hx
  have HC2 : Hid _ := hc2
  have HBB2 : Hid _ := hb2
  clear hc2 hb2 hx
  go_wp2_with fail
  refine (below_few _ _ _ _ _ 7 (by decide) (by decide) HC2).mono ?_
  rintro e w3 ⟨z, rfl, hz0, hz1, hc3, hb3⟩
  have HB3 : Hid _ := under_m HB1.out HCB.out HC1.out.here (HBB2.out.trans hb3)
  clear hc3 hb3
  go_wp2
  go_ret2
  exact blank_ret (by omega) (by omega) HB3.out
end Go.Proofs.YtekbpekfomblbaaGreatDoor.draws
namespace Go.Proofs.YtekbpekfomblbaaGreatDoor.fnMarks
open Go.ChangeShapes Go.WideShapes Go.ChangeAt Go.RowKit Go.WideMaps Go.WideElems
open Go.ChangeMaps (open_string shut_string)
set_option linter.unusedVariables false

theorem own : ownKnob Tryz.prog.godebug = none := by kernel_rfl
theorem laidOut : laidOutB Tryz.prog = true := by kernel_rfl

/-- What the walk is told of a slice of bytes that came in. -/
def IsRow (k : IntKind) (w : World) (a : Option Addr) (len cap : Nat) (zs : List Int) : Prop :=
  (a = none ∧ len = 0 ∧ cap = 0 ∧ zs = []) ∨
  ∃ x, a = some x ∧ len ≤ cap ∧ cap ≤ maxLen ∧ zs.length = cap ∧ (∀ i, i < zs.length → w.cell? (x.add i) = some (.int k (zs.getD i 0))) ∧ ∀ n ∈ zs, (Lit.int k n).wf = true

attribute [-go_sem] run_neq_struct
attribute [local go_sem] cuts.neq_raw cuts.guard_raw
theorem tables {W : World} (h : laidMetH Tryz.prog Rows.fnMarksRow.laid W) (hsh : W.ShapedOpen Tryz.prog) : refs.XTabs W := by
  rw [MakeChecks.laidMetH_plain _ _ _ (by kernel_rfl)] at h
  refine ⟨refs.tabs_of (D1 := Rows.laid_unicode_utf8_acceptRanges) (D2 := Rows.laid_unicode_utf8_first) (D3 := Rows.laid_loop_example_g00484_impl_signSpans) (D4 := Rows.laid_loop_example_g00484_impl_startSpans) (D5 := Rows.laid_loop_example_g00484_impl_partSpans) (D6 := Rows.laid_loop_example_g00484_impl_fixedEnts) (by kernel_rfl) (by kernel_rfl) rfl rfl rfl rfl ?_ ?_ ?_ ?_ ?_ ?_, parseu.err_at h 5 rfl, frames.maxAt_of hsh⟩
  all_goals exact Lib.laidMet.reads h (by repeat (first | exact List.Mem.head _ | apply List.Mem.tail))
theorem big_no (w : World) (a : Option Addr) (len cap : Nat) (h : len ≤ 1048576) : Calls Tryz.prog 4 #[.slice a len cap] w fun e w' => e = .returned (.bool false) ∧ w' = w := by
  have h' : ¬ (1048576 : Int) < len := by omega
  go_enter Tryz.func4, Tryz.ntmps4
  go_wp2
  go_ret
  exact ⟨by simp, rfl⟩
theorem big_yes (w : World) (a : Option Addr) (len cap : Nat) (h : ¬ len ≤ 1048576) : Calls Tryz.prog 4 #[.slice a len cap] w fun e w' => e = .returned (.bool true) ∧ w' = w := by
  have h' : (1048576 : Int) < len := by omega
  go_enter Tryz.func4, Tryz.ntmps4
  go_wp2
  go_ret
  exact ⟨by simp, rfl⟩
theorem row_below {w w' : World} {a : Option Addr} {len : Nat} (h : draws.RowAt w a len) (hb : Below w.heap.size w w') : draws.RowAt w' a len := h.stays hb.size fun _ b _ _ hlt => hb.block b hlt
open cuts (mkV MarkV fin ansOk)
/-- What MarkAt answers, the parts named. -/
theorem ans_parts {r : Option (MarkV × Nat)} {m : MarkV} {j : Nat} {ok : Bool} (h : fin r = (m, j, ok)) {w w' : World} {e : Ending} (ha : ansOk r w w' e) : ∃ ad c, e = .returned (.tuple #[.agg #[.int .i64 m.kind, .string m.name, .slice ad m.raws.length c, .bool m.empty, .string m.text], .int .i64 (j : Int), .bool ok]) ∧ trees.OwnP w' ad m.raws (trees.Rng w w') := by
  obtain ⟨ad, c, he, ho⟩ := ha
  rw [h] at he ho
  exact ⟨ad, c, he, ho⟩
theorem spec_flat {s : ByteArray} {at_ : Int} {L : List pairs.Pair} {m : MarkV} {j : Nat} {ok : Bool} (h : fin (cuts.markR s at_ L) = (m, j, ok)) (hs : s.size ≤ 1048576) (hv : ∀ i, i < L.length → (pairs.at0 L i).2.size ≤ 1048576) (ad : Option Addr) (cap : Nat) (w : World) (hL : pairs.PairsAt w ad L) : Calls Tryz.prog 7 #[.string s, .int .i64 at_, .slice ad L.length cap] w fun e w' => (∃ ad c, e = .returned (.tuple #[.agg #[.int .i64 m.kind, .string m.name, .slice ad m.raws.length c, .bool m.empty, .string m.text], .int .i64 (j : Int), .bool ok]) ∧ trees.OwnP w' ad m.raws (trees.Rng w w')) ∧ Below w.heap.size w w' :=
  (cuts.spec_markAt s at_ ad L cap w hs hL hv).mono fun e w' hh => ⟨ans_parts h hh.1, hh.2⟩
theorem impl_flat {s : ByteArray} {at_ : Int} {L : List pairs.Pair} {m : MarkV} {j : Nat} {ok : Bool} (h : fin (cuts.markR s at_ L) = (m, j, ok)) (hs : s.size ≤ 1048576) (hv : ∀ i, i < L.length → (pairs.at0 L i).2.size ≤ 1048576) (ad : Option Addr) (cap : Nat) (w : World) (hT : refs.XTabs w) (hL : pairs.PairsAt w ad L) : Calls Tryz.prog 6 #[.string s, .int .i64 at_, .slice ad L.length cap] w fun e w' => (∃ ad c, e = .returned (.tuple #[.agg #[.int .i64 m.kind, .string m.name, .slice ad m.raws.length c, .bool m.empty, .string m.text], .int .i64 (j : Int), .bool ok]) ∧ trees.OwnP w' ad m.raws (trees.Rng w w')) ∧ Below w.heap.size w w' :=
  (cuts.impl_markAt s at_ ad L cap w hs hT hL hv).mono fun e w' hh => ⟨ans_parts h hh.1, hh.2⟩
theorem fin_fit {s : ByteArray} {at_ : Int} {L : List pairs.Pair} {m : MarkV} {j : Nat} {ok : Bool} (h : fin (cuts.markR s at_ L) = (m, j, ok)) (hs : s.size ≤ 1048576) : cuts.RFit m.raws ∧ m.raws.length ≤ 1048576 := by
  cases hr : cuts.markR s at_ L with
  | none =>
    rw [hr] at h
    simp only [fin, Prod.mk.injEq] at h
    rw [← h.1]
    exact ⟨cuts.rfit_nil, Nat.zero_le _⟩
  | some y =>
    obtain ⟨m', j'⟩ := y
    rw [hr] at h
    simp only [fin, Prod.mk.injEq] at h
    obtain ⟨rfl, _, _⟩ := h
    exact (cuts.markR_fit hr hs).2
theorem fin_ends {s : ByteArray} {at_ : Int} {L : List pairs.Pair} {m : MarkV} {j : Nat} {ok : Bool} (h : fin (cuts.markR s at_ L) = (m, j, ok)) (hs : s.size ≤ 1048576) : (ok = false → m.kind = 0) ∧ (ok = true → at_ < (j : Int) ∧ (j : Int) ≤ s.size ∧ refs.textB m.text = true) := by
  cases hr : cuts.markR s at_ L with
  | none =>
    rw [hr] at h
    simp only [fin, Prod.mk.injEq] at h
    obtain ⟨rfl, _, rfl⟩ := h
    exact ⟨fun _ => rfl, fun e => by cases e⟩
  | some y =>
    obtain ⟨m', j'⟩ := y
    rw [hr] at h
    simp only [fin, Prod.mk.injEq] at h
    obtain ⟨rfl, rfl, rfl⟩ := h
    have := cuts.markR_ends hr hs
    exact ⟨fun e => (by cases e), fun _ => ⟨this.1, (by omega), this.2.2⟩⟩
theorem own_below {w w' : World} {a : Option Addr} {L : List pairs.Pair} {F : trees.Bset} (h : trees.OwnP w a L F) (hb : Below w.heap.size w w') : trees.OwnP w' a L F := trees.OwnP.out (G := fun _ => False) h (trees.Out.of_below hb) (fun _ _ h => h)
theorem own_at {w : World} {ad : Option Addr} {R : List pairs.Pair} {F : trees.Bset} (h : trees.OwnP w ad R F) (hR : cuts.RFit R) (hl : R.length ≤ 1048576) : pairs.PairsAt w ad R := trees.OwnP.at h ⟨by unfold maxLen; omega, hR.texts⟩
theorem box_below {w w' : World} {b : Nat} {o : Obj} (h : w.heap[b]? = some o) (hb : Below w.heap.size w w') : w'.heap[b]? = some o := (hb.block b (cuts.lt_heap h)).trans h
theorem text_at (s : ByteArray) (hs : s.size ≤ 1048576) (h : refs.textB s = true) (w : World) (hT : refs.XTabs w) : Calls Tryz.prog 8 #[.string s] w fun e w' => e = .returned (.bool true) ∧ Below w.heap.size w w' := cuts.text_H s true hs h w hT
theorem blanks_both (s : ByteArray) (z : Int) (hs : s.size ≤ 40) : ∃ v : Int, ¬ v < z ∧ (∀ W, Calls Tryz.prog 10 #[.string s, .int .i64 z] W fun e w' => e = .returned (.int .i64 v) ∧ Below W.heap.size W w') ∧ ∀ W, Calls Tryz.prog 11 #[.string s, .int .i64 z] W fun e w' => e = .returned (.int .i64 v) ∧ Below W.heap.size W w' := by
  have hm : s.size ≤ maxLen := by unfold maxLen; omega
  by_cases h : z < 0 ∨ (s.size : Int) ≤ z
  · refine ⟨z, by omega, fun W => (marks.impl_blanks_out s z W hm h).mono ?_, fun W => (marks.spec_blanks_out s z W hm h).mono ?_⟩
    · rintro e w' ⟨he, hw⟩; exact ⟨he, hw ▸ Below.refl _ _⟩
    · rintro e w' ⟨he, hw⟩; exact ⟨he, hw ▸ Below.refl _ _⟩
  · obtain ⟨i, rfl⟩ : ∃ i : Nat, z = i := ⟨z.toNat, by omega⟩
    have hi : i ≤ s.size := by omega
    have hge := marks.blE_ge s s.size i
    refine ⟨(marks.blanksE s i : Int), by unfold marks.blanksE; omega, fun W => marks.impl_blanks_in s i W hm hi, fun W => (marks.spec_blanks_in s i W hm hi).mono ?_⟩
    rintro e w' ⟨he, hw⟩; exact ⟨he, hw ▸ Below.refl _ _⟩

/-! ### The walk: the law returns true, and nothing that was there has turned -/
set_option maxRecDepth 100000 in
set_option maxHeartbeats 8000000 in
theorem walk (a0 : Option Addr) (len0 cap0 : Nat) (z0 : List Int) (w : World) (w0 : IsRow .u8 w a0 len0 cap0 z0) (hL : laidMetH Tryz.prog Rows.fnMarksRow.laid w) (hsh : w.ShapedOpen Tryz.prog) :
    Calls Tryz.prog 3 #[.slice a0 len0 cap0] w fun e w' => e = .returned (.bool true) ∧ Below w.heap.size w w' := by
  have HT : Hid (refs.XTabs w) := tables hL hsh
  have hr : Hid (draws.RowAt w a0 len0) := draws.rowAt_of w0
  clear hL hsh w0
  by_cases hz : len0 ≤ 1048576
  · go_enter Tryz.func3, Tryz.ntmps3
    go_wp2_with fail
    refine (big_no _ _ _ _ hz).mono ?_
    rintro e w' ⟨rfl, hw'⟩
    have hw2 := hw'.symm
    clear hw'
    subst hw2
    go_wp2_with fail
    refine (draws.drawMarkAt _ _ _ _ hz hr).mono ?_
    rintro e w1 ⟨s, z, la, L, lcap, rfl, hs, hzr, hp, hf, hl, hb⟩
    have HB1 : Hid (Below w.heap.size w w1) := hb
    have HR1 : Hid _ := row_below hr.out hb
    have HP1 : Hid _ := hp
    have HV : Hid (∀ i, i < L.length → (pairs.at0 L i).2.size ≤ 1048576) := fun i hi => by have := (hf i hi).2; omega
    clear hb hr hp hf
    have hs' : s.size ≤ 1048576 := by omega
    obtain ⟨m, j, ok, hfin⟩ : ∃ m j ok, fin (cuts.markR s z L) = (m, j, ok) := ⟨_, _, _, rfl⟩
    have HRF : Hid (cuts.RFit m.raws) := (fin_fit hfin hs').1
    have hrl : m.raws.length ≤ 1048576 := (fin_fit hfin hs').2
    have HEN : Hid _ := fin_ends hfin hs'
    have HTZ : Hid (m.text.size ≤ 1048576 ∨ ok = false) := by
      cases hmr : cuts.markR s z L with
      | none => rw [hmr] at hfin; simp only [fin, Prod.mk.injEq] at hfin; exact .inr hfin.2.2.symm
      | some y => obtain ⟨m', j'⟩ := y; rw [hmr] at hfin; simp only [fin, Prod.mk.injEq] at hfin; obtain ⟨rfl, _, _⟩ := hfin; exact .inl (cuts.markR_fit hmr hs').1
    have H1 : Hid (∀ (ad : Option Addr) (cap : Nat) (w : World), pairs.PairsAt w ad L → _) := spec_flat hfin hs' HV.out
    have H2 : Hid (∀ (ad : Option Addr) (cap : Nat) (w : World), refs.XTabs w → pairs.PairsAt w ad L → _) := impl_flat hfin hs' HV.out
    have hoo : (ok != ok) = false := by cases ok <;> rfl
    have hee : (m.empty != m.empty) = false := by cases m.empty <;> rfl
    clear hfin
    go_wp2_with fail
    refine (H2.out _ _ _ (HT.out.below HB1.out) HP1.out).mono ?_
    rintro e w2 ⟨⟨ag, cg, rfl, ho⟩, hb⟩
    have HB2 : Hid (Below w.heap.size w w2) := HB1.out.trans (hb.mono HB1.out.size)
    have HR2 : Hid _ := row_below HR1.out hb
    have HP2 : Hid _ := HP1.out.below (Nat.le_refl _) hb
    have HG2 : Hid (trees.OwnP w2 ag m.raws (trees.Rng w1 w2)) := ho
    clear hb ho HR1 HP1
    have HA2 : Hid (∀ o, Below w2.heap.size w2 (w2.alloc o)) := fun o => (Below.refl _ _).alloc (Nat.le_refl _) o
    go_wp2_with fail
    refine (H1.out _ _ _ (HP2.out.below (Nat.le_refl _) (HA2.out _))).mono ?_
    rintro e w3 ⟨⟨aw, cw, rfl, ho⟩, hb⟩
    have HU3 : Hid (Below w2.heap.size w2 w3) := (HA2.out _).trans (hb.mono (HA2.out _).size)
    have HB3 : Hid (Below w.heap.size w w3) := HB2.out.trans (HU3.out.mono HB2.out.size)
    have HW3 : Hid (trees.OwnP w3 aw m.raws (trees.Rng _ w3)) := ho
    have HG3 : Hid _ := own_below HG2.out HU3.out
    have HX3 : Hid (w3.heap[w2.heap.size]? = some (.cells #[.int .i64 m.kind, .string m.name, .slice ag m.raws.length cg, .bool m.empty, .string m.text] 29 (0, 0))) := box_below (heap_alloc_new w2 _) hb
    have HR3 : Hid _ := row_below HR2.out HU3.out
    have HA3 : Hid (∀ o, Below w3.heap.size w3 (w3.alloc o)) := fun o => (Below.refl _ _).alloc (Nat.le_refl _) o
    clear hb ho HG2 HR2 HP2 H1 H2 HU3
    obtain ⟨w4, hw4⟩ : ∃ W, w3.alloc (.cells #[.int .i64 m.kind, .string m.name, .slice aw m.raws.length cw, .bool m.empty, .string m.text] 29) = W := ⟨_, rfl⟩
    have HB4 : Hid (Below w.heap.size w w4) := hw4 ▸ HB3.out.trans ((HA3.out _).mono HB3.out.size)
    have HR4 : Hid _ := row_below HR3.out (hw4 ▸ HA3.out _)
    have HXG : Hid (w4.heap[w2.heap.size]? = _) := box_below HX3.out (hw4 ▸ HA3.out _)
    have HXW : Hid (w4.heap[w3.heap.size]? = some (.cells #[.int .i64 m.kind, .string m.name, .slice aw m.raws.length cw, .bool m.empty, .string m.text] 29 (0, 0))) := hw4 ▸ heap_alloc_new w3 _
    have HPG : Hid (pairs.PairsAt w4 ag m.raws) := own_at (own_below HG3.out (hw4 ▸ HA3.out _)) HRF.out hrl
    have HPW : Hid (pairs.PairsAt w4 aw m.raws) := own_at (own_below HW3.out (hw4 ▸ HA3.out _)) HRF.out hrl
    obtain ⟨⟨g0, g1, g2, g3, g4⟩, -⟩ := cuts.box5 (box_below HX3.out (HA3.out (.cells #[.int .i64 m.kind, .string m.name, .slice aw m.raws.length cw, .bool m.empty, .string m.text] 29)))
    have HWQ : Hid (_ = w4) := hw4
    clear HG3 HW3 HX3 HR3 HA3 HA2 hw4
    go_wp2
    rw [HWQ.out]
    clear HWQ g0 g1 g2 g3 g4
    go_loopw [12] (fun t wr => ∃ k : Nat, k ≤ m.raws.length ∧ t = .int .i64 k ∧ Hid (Below w4.heap.size w4 wr)) (fun t _ => m.raws.length - (intOf t).toNat)
    case atStart => exact ⟨0, Nat.zero_le _, rfl, Below.refl _ _⟩
    case round =>
      obtain ⟨k, hk, rfl, hbw⟩ := hrel
      obtain ⟨⟨g0, g1, g2, g3, g4⟩, -⟩ := cuts.box5 (box_below HXG.out hbw.out)
      by_cases hlt : k < m.raws.length
      · obtain ⟨b, off, ha, hblt, hc⟩ := (HPG.out.below (Nat.le_refl _) hbw.out).row (by omega)
        obtain ⟨b', off', ha', hblt', hc'⟩ := (HPW.out.below (Nat.le_refl _) hbw.out).row (by omega)
        have hl : ∀ W, Below wr.heap.size wr W → W.cell? ⟨b, off + k * 2, none⟩ = some (.string (pairs.at0 m.raws k).1) ∧ W.cell? ⟨b, off + k * 2 + 1, none⟩ = some (.string (pairs.at0 m.raws k).2) := fun W h => ⟨(h.cell (p := ⟨b, off + k * 2, none⟩) hblt).trans (hc k hlt).1, (h.cell (p := ⟨b, off + k * 2 + 1, none⟩) hblt).trans (hc k hlt).2⟩
        have hl' : ∀ W, Below wr.heap.size wr W → W.cell? ⟨b', off' + k * 2, none⟩ = some (.string (pairs.at0 m.raws k).1) ∧ W.cell? ⟨b', off' + k * 2 + 1, none⟩ = some (.string (pairs.at0 m.raws k).2) := fun W h => ⟨(h.cell (p := ⟨b', off' + k * 2, none⟩) hblt').trans (hc' k hlt).1, (h.cell (p := ⟨b', off' + k * 2 + 1, none⟩) hblt').trans (hc' k hlt).2⟩
        have hx : ∀ W, Below wr.heap.size wr W → W.cell? ⟨w2.heap.size, 2, none⟩ = some (.slice ag m.raws.length cg) := fun W h => (cuts.box5 (box_below (box_below HXG.out hbw.out) h)).1.2.2.1
        have hx' : ∀ W, Below wr.heap.size wr W → W.cell? ⟨w3.heap.size, 2, none⟩ = some (.slice aw m.raws.length cw) := fun W h => (cuts.box5 (box_below (box_below HXW.out hbw.out) h)).1.2.2.1
        have hfit := HRF.out k hlt
        obtain ⟨n0, hn0⟩ : ∃ n0, n0 = (pairs.at0 m.raws k).1 := ⟨_, rfl⟩
        obtain ⟨v0, hv0⟩ : ∃ v0, v0 = (pairs.at0 m.raws k).2 := ⟨_, rfl⟩
        rw [← hn0, ← hv0] at hfit hl hl'
        have HTX : Hid (∀ W, refs.XTabs W → _) := fun W h => text_at v0 (by omega) hfit.2.2 W h
        have HTB : Hid (∀ W, Below wr.heap.size wr W → refs.XTabs W) := fun W h => HT.out.below ((HB4.out.trans (hbw.out.mono HB4.out.size)).trans (h.mono (HB4.out.trans (hbw.out.mono HB4.out.size)).size))
        have hqq : ((n0.toList == n0.toList) && (v0.toList == v0.toList)) = true := by simp
        have hki : (k : Int) < m.raws.length := by omega
        subst ha ha'
        clear hc hc' hfit hn0 hv0
        go_wp2_with fail
        refine quiets.wp_region_below (by kernel_rfl) (by kernel_rfl) ?_
        repeat (go_big_quiet_step ((first | (intro hq; rfl) | (intro hq; simp [go_sem, hx _ hq]; rfl) | (intro hq; simp [go_sem, hx' _ hq]; rfl) | (intro hq; simp [go_sem, (hl _ hq).1, (hl _ hq).2]; rfl) | (intro hq; simp [go_sem, (hl' _ hq).1, (hl' _ hq).2]; rfl) | (intro hq; simp only [go_sem, cuts.guard_raw, cuts.neq_raw, hqq]; rfl) | (intro hq; simp [go_sem, cuts.guard_raw, cuts.neq_raw, hqq]; rfl) | (intro hq; exact quiets.below_call (HTX.out _ (HTB.out _ hq)) hq))))
        refine wpQuiet_nil ?_
        intro w6 hb6
        have HB6 : Hid _ := hbw.out.trans (hb6.mono hbw.out.size)
        clear hb6 hl hl' hx hx' g0 g1 g2 g3 g4
        go_wp2
        go_roundw
        case rel => exact ⟨k + 1, by omega, by go_num, HB6.out⟩
        case measure => simp [intOf]; omega
      · have HB5 : Hid (Below w.heap.size w wr) := HB4.out.trans (hbw.out.mono HB4.out.size)
        have HR5 : Hid _ := row_below HR4.out hbw.out
        have HX5 : Hid _ := box_below HXG.out hbw.out
        go_wp2_with fail
        refine (draws.drawBlanks _ _ _ _ hz HR5).mono ?_
        rintro e w7 ⟨s2, z2, rfl, hs2, hz2, hb⟩
        have HB7 : Hid (Below w.heap.size w w7) := HB5.out.trans (hb.mono HB5.out.size)
        have HX7 : Hid _ := box_below HX5.out hb
        obtain ⟨v, hvz, hv1, hv2⟩ := blanks_both s2 z2 hs2
        have H3 : Hid (∀ W, _) := hv1
        have H4 : Hid (∀ W, _) := hv2
        clear hb hv1 hv2 g0 g1 g2 g3 g4
        go_wp2_with fail
        refine (H3.out _).mono ?_
        rintro e w8 ⟨rfl, hb⟩
        have HB8 : Hid (Below w.heap.size w w8) := HB7.out.trans (hb.mono HB7.out.size)
        have HX8 : Hid _ := box_below HX7.out hb
        clear hb
        go_wp2_with fail
        refine (H4.out _).mono ?_
        rintro e w9 ⟨rfl, hb⟩
        have HB9 : Hid (Below w.heap.size w w9) := HB8.out.trans (hb.mono HB8.out.size)
        have HX9 : Hid _ := box_below HX8.out hb
        clear hb
        obtain ⟨⟨g0, g1, g2, g3, g4⟩, -⟩ := cuts.box5 HX9.out
        cases ok
        · have hk0 : m.kind = 0 := HEN.out.1 rfl
          go_wp2
          go_ret
          exact ⟨rfl, HB9.out⟩
        · obtain ⟨e1, e2, e3⟩ := HEN.out.2 rfl
          have htz : m.text.size ≤ 1048576 := by
            rcases HTZ.out with h | h
            · exact h
            · cases h
          have HTX : Hid (∀ W, refs.XTabs W → _) := fun W h => text_at m.text htz e3 W h
          have e1' : ¬ (j : Int) ≤ z := by omega
          clear e3
          go_wp2_with fail
          refine (HTX.out _ (HT.out.below HB9.out)).mono ?_
          rintro e w10 ⟨rfl, hb⟩
          have HB10 : Hid (Below w.heap.size w w10) := HB9.out.trans (hb.mono HB9.out.size)
          clear hb
          go_wp2
          go_ret
          exact ⟨rfl, HB10.out⟩
  · go_enter Tryz.func3, Tryz.ntmps3
    go_wp2_with fail
    refine (big_yes _ _ _ _ hz).mono ?_
    rintro e w' ⟨rfl, hw'⟩
    have hw2 := hw'.symm
    clear hw'
    subst hw2
    go_wp2
    go_ret
    exact ⟨rfl, Below.refl _ _⟩

/-! ### The row -/
theorem vars_len {H : Type} {enc : TypeId × Value → H} {P : Program} {w : World} {sp : Nat → Bool} : ∀ {ns : List String} {gs : List (DataW H)} {ps : List MemPlace}, DataW.TrodVars enc P w sp ns gs ps → gs.length = ns.length
  | [], [], _, _ => rfl
  | [], _ :: _, _, h => h.elim
  | _ :: _, [], _, h => h.elim
  | _ :: ns, _ :: gs, _, h => by
    obtain ⟨_, _, _, _, _, _, _, _, _, _, h, _⟩ := h
    simp [vars_len h]
theorem list_len {α : Type} {l : List α} (h : l.length = 4) : ∃ g1 g2 g3 g4, l = [g1, g2, g3, g4] := by
  match l, h with
  | [g1, g2, g3, g4], _ => exact ⟨g1, g2, g3, g4, rfl⟩
set_option maxRecDepth 100000 in
theorem door_met (os : Os) (args : Array Value) : laidMetH Tryz.prog Rows.fnMarksRow.laid ({ World.doorLaid Tryz.prog 400 os with heap := (World.doorLaid Tryz.prog 400 os).heap.modify 1 fun
    | .cells _ t fz => .cells (Lib.firstTab.map fun z => Value.int .u8 z).toArray t fz
    | o => o }.forCall (fun _ _ => 0) ⟨#[], args, []⟩).memory :=
  laidMetH_of_parts3 (fuel := 8) (laidMet_of_run' 8 (by kernel_rfl) (by kernel_rfl)) (by kernel_rfl) (by kernel_rfl)
set_option maxRecDepth 100000 in
theorem lifted (os : Os) (started : os.Started) (H : Type) (enc : TypeId × Value → H) :
    ReturnsInHanded {} Tryz.checked os 3 .any (fun w args => (Rows.fnMarksSpec.pre enc Tryz.prog Tryz.f3 [] false w args ∧ laidMetH Tryz.prog Rows.fnMarksRow.laid w) ∧ sizedMet enc Tryz.prog Tryz.f3 (OpenSpec.ofChange Rows.fnMarksSpec) false w args)
      (Rows.fnMarksSpec.post enc Tryz.prog Tryz.f3 false true false false) := by
  refine frames.change_and_shaped (C := Tryz.checked) (X := fun w _ => laidMetH Tryz.prog Rows.fnMarksRow.laid w) (fun _ _ _ hh h => h.of_heap hh) own started (by kernel_rfl) Tryz.func3
    (ChangeSpec.witness_shaped (enc := enc) (C := Tryz.checked) (os := os) (X := fun w _ => laidMetH Tryz.prog Rows.fnMarksRow.laid w) false { World.doorLaid Tryz.prog 400 os with heap := (World.doorLaid Tryz.prog 400 os).heap.modify 1 fun
    | .cells _ t fz => .cells (Lib.firstTab.map fun z => Value.int .u8 z).toArray t fz
    | o => o } #[.slice none 0 0] 8 rfl (World.shaped_of_RefB (by kernel_rfl) (by kernel_rfl)) (by kernel_rfl) (by kernel_rfl) (by kernel_rfl) (door_met os _)) ?_
  intro W base args ds gs before hval0 hW hL hsh
  have hval : ∀ (j : Nat) t v, Tryz.f3.params[j]? = some t → args[j]? = some v → Value.okWide Tryz.prog W .any base t v := hval0
  have hW' := hW
  obtain ⟨p, q, hA0, hV, rfl, hfz, hnd⟩ := hW
  have hA : DataW.TrodAll enc Tryz.prog W 0 (fun _ => true) true Tryz.f3.params.toList args.toList ds p := hA0
  rw [Tryz.params3] at hA hval
  obtain ⟨v0, vs0, d0, ds0, p0, q0, hargs, rfl, rfl, h0, r0⟩ := trodAll_cons hA
  obtain ⟨rfl, rfl, rfl⟩ := trodAll_nil r0
  obtain rfl : args = #[v0] := by cases args; simp_all
  obtain ⟨g1, g2, g3, g4, rfl⟩ := list_len (vars_len hV)
  obtain ⟨a0, len0, cap0, rfl⟩ := okWide_slice Tryz.underlying22 (hval 0 22 v0 rfl rfl)
  have k0 := h0
  have lt0 : ∀ x ∈ p0, x.block < W.heap.size := by obtain ⟨m, hm⟩ := k0; exact DataW.trod_lt m _ _ _ hm
  obtain ⟨z0, w0⟩ : ∃ zs, IsRow .u8 W a0 len0 cap0 zs := by
    obtain ⟨fuel, hf⟩ := h0
    rcases open_ints Tryz.underlying22 Tryz.underlying5 (by kernel_rfl) hf with ⟨hcs, _⟩ | ⟨x, l, c, zs, hcs, _, hl, hm, hz, _, hcell, hwz⟩
    · simp [Value.cells] at hcs
      obtain ⟨rfl, rfl, rfl⟩ := hcs
      exact ⟨[], .inl ⟨rfl, rfl, rfl, rfl⟩⟩
    · simp [Value.cells] at hcs
      obtain ⟨rfl, rfl, rfl⟩ := hcs
      exact ⟨zs, .inr ⟨_, rfl, hl, hm, by simpa using hz, hcell, hwz⟩⟩
  clear hA0 hval0
  refine (walk a0 len0 cap0 z0 W w0 hL hsh).mono fun e W' ⟨he, bel⟩ => ?_
  subst he
  exact ⟨_, rfl, _, _, _, [], _, _, hW', trodAll_mk1 (shut_bool Tryz.underlying4 _), (trodAll_cons_mk (Below.trod laidOut (by kernel_rfl) (of_decide_eq_true (by kernel_rfl)) k0 bel lt0) trodAll_mk0), Below.trodVars laidOut bel (by kernel_rfl) hV, bel.frame _, fun h => by cases h⟩

theorem said : Rows.FnMarksSaid :=
  OpenClaim.holds_of_wide 3 Tryz.f3 rfl rfl rfl rfl rfl rfl rfl ⟨rfl, rfl, rfl, rfl, rfl⟩ rfl rfl rfl rfl rfl (by kernel_rfl) Tryz.func3 (by kernel_rfl)
    (of_decide_eq_true (by kernel_rfl)) (by unfold Func.isWrapper; first | (rw [if_pos (by decide +kernel)]; kernel_rfl) | (rw [if_neg (by decide +kernel)]; exact ⟨rfl, rfl⟩))
    (fun os started H enc _ => lifted os started H enc)

/-! ### The card -/
theorem plain (f : FuncId) (fn : Func) (hf : Tryz.pinned.checked.prog.funcNamed "loop.example/g00484/laws.FnMarks" = some f) (hfn : Tryz.pinned.checked.prog.funcs[f]? = some fn) :
    true = Tryz.pinned.checked.prog.looks [] ∧ ∀ (j : Nat) t, fn.params[j]? = some t → Tryz.pinned.checked.prog.wantsStandIn t = false := by
  obtain rfl : f = 3 := Option.some.inj ((show Tryz.prog.funcNamed "loop.example/g00484/laws.FnMarks" = some 3 by kernel_rfl).symm.trans hf) |>.symm
  obtain rfl : fn = Tryz.f3 := (Option.some.inj (Tryz.func3.symm.trans hfn)).symm
  refine ⟨by kernel_rfl, fun j t ht => ?_⟩
  rw [Tryz.params3] at ht
  have hm : t ∈ [22] := by simpa using Array.mem_of_getElem? ht
  have hall : ([22].all fun u => !Tryz.prog.wantsStandIn u) = true := by kernel_rfl
  exact (show Tryz.prog.wantsStandIn t = false by simpa using List.all_eq_true.1 hall t hm)

/-- The statement. -/
theorem card : Rows.FnMarksCardSaid :=
  Claim7.holds_tied_plain_at .later [] _ _ _ _ said (fun _ h => by cases h) (by kernel_rfl) (fun _ h => by cases h) fnMarks_row_tie rfl ⟨rfl, rfl⟩ (by kernel_rfl) rfl plain (by kernel_rfl)
#print axioms card
end Go.Proofs.YtekbpekfomblbaaGreatDoor.fnMarks
