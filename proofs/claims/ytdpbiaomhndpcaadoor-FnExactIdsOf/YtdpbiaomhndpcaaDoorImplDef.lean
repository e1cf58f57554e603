/-
  What DefOf answers, the specification's and the program's.
-/
import Derived.Test.YtdpbiaomhndpcaaDoorDefP
import Derived.Test.YtdpbiaomhndpcaaDoorQuiet
import Derived.Lib.SmallJoins
namespace Go.Proofs.YtdpbiaomhndpcaaDoor.heads
open Go.ChangeShapes Go.WideShapes Go.ChangeAt Go.RowKit
set_option linter.unusedVariables false
theorem box5 {w : World} {b : Nat} {t : TypeId} {c0 c1 c2 c3 c4 : Value} (h : w.heap[b]? = some (.cells #[c0, c1, c2, c3, c4] t (0, 0))) :
    (w.cell? ⟨b, 0, none⟩ = some c0 ∧ w.cell? ⟨b, 1, none⟩ = some c1 ∧ w.cell? ⟨b, 2, none⟩ = some c2 ∧ w.cell? ⟨b, 3, none⟩ = some c3 ∧ w.cell? ⟨b, 4, none⟩ = some c4) ∧
    w.frozen? ⟨b, 0, none⟩ = false ∧ w.frozen? ⟨b, 1, none⟩ = false ∧ w.frozen? ⟨b, 2, none⟩ = false ∧ w.frozen? ⟨b, 3, none⟩ = false ∧ w.frozen? ⟨b, 4, none⟩ = false := by
  simp [World.cell?, World.frozen?, h]
set_option maxRecDepth 100000 in
set_option maxHeartbeats 4000000 in
theorem impl_def (a : Option Addr) (L : List Df) (cap : Nat) (e x : ByteArray) (d : Df) (ok : Bool) (h : dfR L e x = (d, ok)) (w : World) (hL : DfsAt w a L) : Calls Tryd.prog 49 #[.slice a L.length cap, .string e, .string x] w fun e' w' => e' = .returned (.tuple #[.agg #[.string d.el, .string d.at_, .bool d.id, .bool d.has, .string d.val], .bool ok]) ∧ Below w.heap.size w w' := by
  have HL : Hid _ := hL
  have hlen := hL.short
  unfold maxLen at hlen
  have HR : Hid _ := h
  clear hL h
  go_enter Tryd.func49, Tryd.ntmps49
  go_wp2
  go_loopw [12] (fun t wr => ∃ k f : Nat, k ≤ L.length ∧ t = .int .i64 k ∧ Hid (dfE L e x (L.length + 1) 0 = dfE L e x f k ∧ L.length < k + f) ∧ Hid (Below w.heap.size w wr) ∧ Hid (wr.heap[w.heap.size]? = some (.cells #[.string ⟨#[]⟩, .string ⟨#[]⟩, .bool false, .bool false, .string ⟨#[]⟩] 86 (0, 0)))) (fun t _ => L.length - (intOf t).toNat)
  case atStart => exact ⟨0, _, Nat.zero_le _, rfl, ⟨rfl, by omega⟩, (Below.refl _ _).alloc (Nat.le_refl _) _, heap_alloc_new w _⟩
  case round =>
    obtain ⟨k, f, hk, rfl, hf, hb, hx⟩ := hrel
    obtain ⟨⟨x0, x1, x2, x3, x4⟩, f0, f1, f2, f3, f4⟩ := box5 hx.out
    by_cases hlt : k < L.length
    · obtain ⟨b, off, ha, hblt, hc⟩ := (HL.out.below (Nat.le_refl _) hb.out).row (by omega)
      obtain ⟨hc1, hc2, hc3, hc4, hc5⟩ := hc k hlt
      obtain ⟨t1, h1⟩ : ∃ t, ((df0 L k).el.toList == e.toList) = t := ⟨_, rfl⟩
      obtain ⟨t2, h2⟩ : ∃ t, ((df0 L k).at_.toList == x.toList) = t := ⟨_, rfl⟩
      have hgo : (t1 && t2) = false → ∃ g, dfE L e x f k = dfE L e x g (k + 1) ∧ L.length < k + 1 + g := fun hh => dfE_go hf.out.2 hlt (by rw [h1, h2]; exact hh)
      have hyes : (t1 && t2) = true → d = df0 L k ∧ ok = true := fun hh => by
        have q := dfR_yes (hf.out.1.trans (dfE_hit hf.out.2 hlt (by rw [h1, h2]; exact hh)))
        have := HR.out.symm.trans q
        simp only [Prod.mk.injEq] at this
        exact this
      have HGO : Hid _ := hgo
      have HYES : Hid _ := hyes
      obtain ⟨y, hy⟩ : ∃ y, df0 L k = y := ⟨_, rfl⟩
      rw [hy] at hc1 hc2 hc3 hc4 hc5 h1 h2
      have HY : Hid _ := hy
      subst ha
      clear hc hgo hyes hy
      have hnext : (t1 && t2) = false → ∃ g, Hid (dfE L e x (L.length + 1) 0 = dfE L e x g (k + 1) ∧ L.length < k + 1 + g) := fun hh => by
        obtain ⟨g, e1, e2⟩ := HGO.out hh
        exact ⟨g, hf.out.1.trans e1, e2⟩
      have HN : Hid _ := hnext
      clear hnext HGO hf
      cases t1
      · obtain ⟨g, hg⟩ := HN.out rfl
        go_wp2
        go_roundw
        case rel => exact ⟨k + 1, g, by omega, by go_num, hg, hb.out.alloc hb.out.size _, (((Below.refl _ _).alloc (Nat.le_refl _) _).block _ (pairs.lt_heap hx.out)).trans hx.out⟩
        case measure => simp [intOf]; omega
      · cases t2
        · obtain ⟨g, hg⟩ := HN.out rfl
          go_wp2
          go_roundw
          case rel => exact ⟨k + 1, g, by omega, by go_num, hg, hb.out.alloc hb.out.size _, (((Below.refl _ _).alloc (Nat.le_refl _) _).block _ (pairs.lt_heap hx.out)).trans hx.out⟩
          case measure => simp [intOf]; omega
        · obtain ⟨hd, rfl⟩ := HYES.out rfl
          have hd' := hd.trans HY.out
          clear hd HYES HY
          subst hd'
          obtain ⟨⟨y0, y1, y2, y3, y4⟩, y5, y6, y7, y8, y9⟩ := box5 ((((Below.refl wr.heap.size wr).alloc (Nat.le_refl _) (.cells #[.string d.el, .string d.at_, .bool d.id, .bool d.has, .string d.val] 86)).block _ (pairs.lt_heap hx.out)).trans hx.out)
          go_wp2
          refine bodyPost_ret (by simp [results, Tryd.results49, go_sem, y0, y1, y2, y3, y4]; try rfl) rfl ?_
          exact ⟨rfl, pairs.below_set (pairs.below_set (pairs.below_set (pairs.below_set (pairs.below_set (hb.out.alloc hb.out.size _) (Nat.le_refl _)) (Nat.le_refl _)) (Nat.le_refl _)) (Nat.le_refl _)) (Nat.le_refl _)⟩
    · have hno := dfR_no (hf.out.1.trans (dfE_end hlt))
      have hdd := HR.out.symm.trans hno
      simp only [Prod.mk.injEq] at hdd
      obtain ⟨rfl, rfl⟩ := hdd
      clear hno
      go_wp2
      refine bodyPost_ret (by simp [results, Tryd.results49, go_sem, x0, x1, x2, x3, x4]; try rfl) rfl ?_
      exact ⟨rfl, pairs.below_set (pairs.below_set (pairs.below_set (pairs.below_set (pairs.below_set hb.out (Nat.le_refl _)) (Nat.le_refl _)) (Nat.le_refl _)) (Nat.le_refl _)) (Nat.le_refl _)⟩
set_option maxRecDepth 100000 in
set_option maxHeartbeats 4000000 in
theorem spec_def (a : Option Addr) (L : List Df) (cap : Nat) (e x : ByteArray) (d : Df) (ok : Bool) (h : dfR L e x = (d, ok)) (w : World) (hL : DfsAt w a L) : Calls Tryd.prog 43 #[.slice a L.length cap, .string e, .string x] w fun e' w' => e' = .returned (.tuple #[.agg #[.string d.el, .string d.at_, .bool d.id, .bool d.has, .string d.val], .bool ok]) ∧ Below w.heap.size w w' := by
  have HL : Hid _ := hL
  have hlen := hL.short
  unfold maxLen at hlen
  have HR : Hid _ := h
  clear hL h
  go_enter Tryd.func43, Tryd.ntmps43
  go_wp2
  go_loopw [8] (fun t wr => ∃ k f : Nat, k ≤ L.length ∧ t = .int .i64 k ∧ Hid (dfE L e x (L.length + 1) 0 = dfE L e x f k ∧ L.length < k + f) ∧ Hid (Below w.heap.size w wr) ∧ Hid (wr.heap[w.heap.size]? = some (.cells #[.string ⟨#[]⟩, .string ⟨#[]⟩, .bool false, .bool false, .string ⟨#[]⟩] 86 (0, 0)))) (fun t _ => L.length - (intOf t).toNat)
  case atStart => exact ⟨0, _, Nat.zero_le _, rfl, ⟨rfl, by omega⟩, (Below.refl _ _).alloc (Nat.le_refl _) _, heap_alloc_new w _⟩
  case round =>
    obtain ⟨k, f, hk, rfl, hf, hb, hx⟩ := hrel
    obtain ⟨⟨x0, x1, x2, x3, x4⟩, f0, f1, f2, f3, f4⟩ := box5 hx.out
    by_cases hlt : k < L.length
    · obtain ⟨b, off, ha, hblt, hc⟩ := (HL.out.below (Nat.le_refl _) hb.out).row (by omega)
      obtain ⟨hc1, hc2, hc3, hc4, hc5⟩ := hc k hlt
      obtain ⟨t1, h1⟩ : ∃ t, ((df0 L k).el.toList == e.toList) = t := ⟨_, rfl⟩
      obtain ⟨t2, h2⟩ : ∃ t, ((df0 L k).at_.toList == x.toList) = t := ⟨_, rfl⟩
      have hgo : (t1 && t2) = false → ∃ g, dfE L e x f k = dfE L e x g (k + 1) ∧ L.length < k + 1 + g := fun hh => dfE_go hf.out.2 hlt (by rw [h1, h2]; exact hh)
      have hyes : (t1 && t2) = true → d = df0 L k ∧ ok = true := fun hh => by
        have q := dfR_yes (hf.out.1.trans (dfE_hit hf.out.2 hlt (by rw [h1, h2]; exact hh)))
        have := HR.out.symm.trans q
        simp only [Prod.mk.injEq] at this
        exact this
      have HGO : Hid _ := hgo
      have HYES : Hid _ := hyes
      obtain ⟨y, hy⟩ : ∃ y, df0 L k = y := ⟨_, rfl⟩
      rw [hy] at hc1 hc2 hc3 hc4 hc5 h1 h2
      have HY : Hid _ := hy
      subst ha
      clear hc hgo hyes hy
      have hnext : (t1 && t2) = false → ∃ g, Hid (dfE L e x (L.length + 1) 0 = dfE L e x g (k + 1) ∧ L.length < k + 1 + g) := fun hh => by
        obtain ⟨g, e1, e2⟩ := HGO.out hh
        exact ⟨g, hf.out.1.trans e1, e2⟩
      have HN : Hid _ := hnext
      clear hnext HGO hf
      cases t1
      · obtain ⟨g, hg⟩ := HN.out rfl
        go_wp2
        go_roundw
        case rel => exact ⟨k + 1, g, by omega, by go_num, hg, hb.out, hx.out⟩
        case measure => simp [intOf]; omega
      · cases t2
        · obtain ⟨g, hg⟩ := HN.out rfl
          go_wp2
          go_roundw
          case rel => exact ⟨k + 1, g, by omega, by go_num, hg, hb.out, hx.out⟩
          case measure => simp [intOf]; omega
        · obtain ⟨hd, rfl⟩ := HYES.out rfl
          have hd' := hd.trans HY.out
          clear hd HYES HY
          subst hd'
          go_wp2
          refine bodyPost_ret (by simp [results, Tryd.results43, go_sem, x0, x1, x2, x3, x4]; try rfl) rfl ?_
          exact ⟨rfl, pairs.below_set (pairs.below_set (pairs.below_set (pairs.below_set (pairs.below_set hb.out (Nat.le_refl _)) (Nat.le_refl _)) (Nat.le_refl _)) (Nat.le_refl _)) (Nat.le_refl _)⟩
    · have hno := dfR_no (hf.out.1.trans (dfE_end hlt))
      have hdd := HR.out.symm.trans hno
      simp only [Prod.mk.injEq] at hdd
      obtain ⟨rfl, rfl⟩ := hdd
      clear hno
      go_wp2
      refine bodyPost_ret (by simp [results, Tryd.results43, go_sem, x0, x1, x2, x3, x4]; try rfl) rfl ?_
      exact ⟨rfl, pairs.below_set (pairs.below_set (pairs.below_set (pairs.below_set (pairs.below_set hb.out (Nat.le_refl _)) (Nat.le_refl _)) (Nat.le_refl _)) (Nat.le_refl _)) (Nat.le_refl _)⟩
end Go.Proofs.YtdpbiaomhndpcaaDoor.heads
