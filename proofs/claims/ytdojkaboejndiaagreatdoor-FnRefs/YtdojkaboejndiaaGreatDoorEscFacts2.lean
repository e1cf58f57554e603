/-
  What is escaped stands for itself: plain, the two runs.
-/
import Derived.Test.YtdojkaboejndiaaGreatDoorEscFacts
namespace Go.Proofs.YtdojkaboejndiaaGreatDoor.refs
open Go.RowKit
open escs (byteAt escA escAt escT escS)
open pairs (Pair at0)
set_option linter.unusedVariables false

/-- What stands for a byte, with all that a run over it asks. -/
structure Lit (r x : ByteArray) : Prop where
  two : 2 ≤ r.size
  amp : byteAt r 0 = 38
  not : ∀ j, j < r.size - 1 → byteAt r j ≠ 59
  fin : byteAt r (r.size - 1) = 59
  one : ∀ L : List Pair, oneR (r.extract 1 (r.size - 1)) L = (x, true)
  low : ∀ j, j < r.size → 32 ≤ byteAt r j ∧ byteAt r j < 128
theorem byte_lit (s : ByteArray) (k : Nat) (b : UInt8) (hk : k < s.size) (h : byteAt s k = (b.toNat : Int)) : s.extract k (k + 1) = ⟨#[b]⟩ := by
  rw [dec.extract1 s k (by omega)]
  have : s.get! k = b := by
    unfold escs.byteAt at h
    exact UInt8.toNat_inj.mp (by omega)
  rw [this]
theorem own_size (s : ByteArray) (k : Nat) (hk : k < s.size) : (s.extract k (k + 1)).size = 1 := by rw [ByteArray.size_extract]; omega
theorem own_get (s : ByteArray) (k : Nat) (hk : k < s.size) : (s.extract k (k + 1)).get! 0 = s.get! k := by rw [dec.extract1 s k (by omega)]; rfl
theorem esc_lit (attr : Bool) (s : ByteArray) (k : Nat) (hk : k < s.size) : (escAt attr s k = s.extract k (k + 1) ∧ byteAt s k ≠ 38) ∨ Lit (escAt attr s k) (s.extract k (k + 1)) := by
  unfold escs.escAt escs.escA
  by_cases h1 : byteAt s k = 38
  · rw [if_pos h1, byte_lit s k 38 hk h1]
    exact .inr ⟨by decide, by decide, by decide, by decide, fun L => lit_amp L, by decide⟩
  rw [if_neg h1]
  by_cases h2 : byteAt s k = 60
  · rw [if_pos h2, byte_lit s k 60 hk h2]
    exact .inr ⟨by decide, by decide, by decide, by decide, fun L => lit_lt L, by decide⟩
  rw [if_neg h2]
  by_cases h3 : byteAt s k = 62
  · rw [if_pos h3, byte_lit s k 62 hk h3]
    exact .inr ⟨by decide, by decide, by decide, by decide, fun L => lit_gt L, by decide⟩
  rw [if_neg h3]
  by_cases h4 : byteAt s k = 13
  · rw [if_pos h4, byte_lit s k 13 hk h4]
    exact .inr ⟨by decide, by decide, by decide, by decide, fun L => lit_13 L, by decide⟩
  rw [if_neg h4]
  by_cases h5 : attr = true ∧ byteAt s k = 34
  · rw [if_pos h5, byte_lit s k 34 hk h5.2]
    exact .inr ⟨by decide, by decide, by decide, by decide, fun L => lit_quot L, by decide⟩
  rw [if_neg h5]
  by_cases h6 : attr = true ∧ byteAt s k = 9
  · rw [if_pos h6, byte_lit s k 9 hk h6.2]
    exact .inr ⟨by decide, by decide, by decide, by decide, fun L => lit_9 L, by decide⟩
  rw [if_neg h6]
  by_cases h7 : attr = true ∧ byteAt s k = 10
  · rw [if_pos h7, byte_lit s k 10 hk h7.2]
    exact .inr ⟨by decide, by decide, by decide, by decide, fun L => lit_10 L, by decide⟩
  rw [if_neg h7]
  exact .inl ⟨rfl, h1⟩
theorem esc_high (attr : Bool) (s : ByteArray) (k : Nat) (h : 128 ≤ byteAt s k) : escAt attr s k = s.extract k (k + 1) := by
  unfold escs.escAt
  exact escs.escA_own _ (by omega) (by omega) (by omega) (by omega) (by omega) (by omega) (by omega)
theorem cut_next (s : ByteArray) (k : Nat) : s.extract 0 k ++ s.extract k (k + 1) = s.extract 0 (k + 1) := by
  apply ext_data
  obtain ⟨⟨l⟩⟩ := s
  simp only [ByteArray.data_append, ByteArray.data_extract, Array.toList_append, Array.toList_extract, List.extract_eq_take_drop, List.drop_zero, Nat.sub_zero]
  rw [show k + 1 - k = 1 by omega, List.take_add]
theorem cut_all (s : ByteArray) : s.extract 0 s.size = s := by
  apply ext_data
  obtain ⟨⟨l⟩⟩ := s
  have hz : (ByteArray.mk ⟨l⟩).size = l.length := rfl
  rw [hz]
  simp [ByteArray.data_extract]
theorem exp_run (attr : Bool) (s : ByteArray) (L : List Pair) : ∀ (d k f : Nat), s.size - k = d → k ≤ s.size → (escS attr s).size ≤ pos attr s k + f → expF (escS attr s) L f (pos attr s k) (s.extract 0 k) = some s
  | 0, k, f, hd, hk, hf => by
    have e : k = s.size := by omega
    rw [e, pos_end, expF_end _ _ _ _ _ (by omega), cut_all]
  | d + 1, k, f, hd, hk, hf => by
    have hlt : k < s.size := by omega
    have hpl := pos_le attr s k hlt
    have hpn := pos_next attr s k
    rcases esc_lit attr s k hlt with ⟨ho, h38⟩ | hl
    · have hz : (escAt attr s k).size = 1 := by rw [ho]; exact own_size s k hlt
      have hb : byteAt (escS attr s) (pos attr s k) = byteAt s k := by
        have := esc_get attr s k 0 hlt (by omega)
        rw [Nat.add_zero, ho, own_get s k hlt] at this
        unfold escs.byteAt
        rw [this]
      obtain ⟨g, hg1, hg2⟩ := expF_own (escS attr s) L f (pos attr s k) (s.extract 0 k) hf (by omega) (by rw [hb]; exact h38)
      have hc := esc_cut attr s k 0 1 hlt (by omega)
      rw [Nat.add_zero, ho] at hc
      have hc2 : (s.extract k (k + 1)).extract 0 1 = s.extract k (k + 1) := by
        have := cut_all (s.extract k (k + 1))
        rwa [own_size s k hlt] at this
      rw [hg1, hc, hc2, cut_next, show pos attr s k + 1 = pos attr s (k + 1) by omega]
      exact exp_run attr s L d (k + 1) g (by omega) (by omega) (by omega)
    · obtain ⟨g, hg1, hg2⟩ := step_lit (escS attr s) L f (pos attr s k) (s.extract 0 k) (escAt attr s k) (s.extract k (k + 1)) hf hpl (fun j hj => esc_get attr s k j hlt hj) (esc_cut attr s k 1 ((escAt attr s k).size - 1) hlt (by omega)) hl.two hl.amp hl.not hl.fin (hl.one L)
      rw [hg1, cut_next, ← hpn]
      exact exp_run attr s L d (k + 1) g (by omega) (by omega) (by omega)
theorem exp_esc (attr : Bool) (s : ByteArray) (L : List Pair) : expE (escS attr s) L = some s := by
  have h := exp_run attr s L s.size 0 (escS attr s).size (by omega) (Nat.zero_le _) (by omega)
  have e : s.extract 0 0 = ⟨#[]⟩ := by
    have : (s.extract 0 0).size = 0 := by rw [ByteArray.size_extract]; omega
    exact ByteArray.ext (Array.eq_empty_of_size_eq_zero this)
  rw [e] at h
  exact h

/-! ### Its signs -/
def okS : Int → Bool := spans.inB spans.signL
theorem ok_low {z : Int} (h : 32 ≤ z) (h1 : z < 128) : okS z = true := spans.sign_yes (by omega)
theorem scan_low (u : ByteArray) (p : Nat) : ∀ (m g : Nat), (∀ j, j < m → 32 ≤ byteAt u (p + j) ∧ byteAt u (p + j) < 128) → p + m ≤ u.size → u.size ≤ p + g → ∃ g', scans.scan u okS g p = scans.scan u okS g' (p + m) ∧ u.size ≤ p + m + g'
  | 0, g, _, _, hg => ⟨g, rfl, hg⟩
  | m + 1, g, h, hz, hg => by
    obtain ⟨g1, e1, e2⟩ := scan_low u p m g (fun j hj => h j (by omega)) (by omega) hg
    have hm := h m (by omega)
    have hd := ascii u (p + m) (by omega) hm.2
    have hb : ((u.get! (p + m)).toNat : Int) = byteAt u (p + m) := rfl
    obtain ⟨g2, e3, e4⟩ := scans.scan_good u okS g1 (p + m) (by omega) e2 (by rw [hd]; intro e; have := congrArg Prod.fst e; simp only at this; omega) (by rw [hd]; simp only; rw [hb]; exact ok_low hm.1 hm.2)
    rw [hd] at e3 e4
    exact ⟨g2, by rw [e1, e3]; rfl, by simp only at e4; omega⟩
theorem pos_high (attr : Bool) (s : ByteArray) (k : Nat) : ∀ n, k + n ≤ s.size → (∀ j, j < n → 128 ≤ byteAt s (k + j)) → pos attr s (k + n) = pos attr s k + n
  | 0, _, _ => rfl
  | n + 1, hk, h => by
    have ih := pos_high attr s k n (by omega) (fun j hj => h j (by omega))
    rw [show k + (n + 1) = (k + n) + 1 by omega, pos_next, ih, esc_high attr s (k + n) (h n (by omega)), own_size s (k + n) (by omega)]
    omega
theorem scan_run (attr : Bool) (s : ByteArray) : ∀ (d k f g : Nat), s.size - k ≤ d → k ≤ s.size → s.size ≤ k + f → (escS attr s).size ≤ pos attr s k + g → scans.scan s okS f k = true → scans.scan (escS attr s) okS g (pos attr s k) = true
  | d, k, f, g, hd, hk, hf, hg, h => by
    by_cases hlt : k < s.size
    · match d, hd with
      | 0, hd => omega
      | d + 1, hd =>
        by_cases hb : Utf8.decode s k = (65533, 1)
        · rw [scans.scan_bad s okS f k hlt hf (.inl hb)] at h
          cases h
        · cases ho : okS ((Utf8.decode s k).1 : Int)
          · rw [scans.scan_bad s okS f k hlt hf (.inr ho)] at h
            cases h
          · obtain ⟨f', e1, e2⟩ := scans.scan_good s okS f k hlt hf hb ho
            rw [e1] at h
            have hle := (dec.back s k hlt hb).1
            have hps := dec.decode_pos s k hlt
            by_cases hn : (Utf8.decode s k).2 = 1
            · have hlow := low s k hlt hb hn
              rw [hn] at h e2
              have hpl := pos_le attr s k hlt
              have hpn := pos_next attr s k
              have hnext : ∃ g', scans.scan (escS attr s) okS g (pos attr s k) = scans.scan (escS attr s) okS g' (pos attr s (k + 1)) ∧ (escS attr s).size ≤ pos attr s (k + 1) + g' := by
                rcases esc_lit attr s k hlt with ⟨hown, _⟩ | hl
                · have hz : (escAt attr s k).size = 1 := by rw [hown]; exact own_size s k hlt
                  have hget := esc_get attr s k 0 hlt (by omega)
                  rw [Nat.add_zero, hown, own_get s k hlt] at hget
                  have hmv : Utf8.decode (escS attr s) (pos attr s k) = Utf8.decode s k := moved s (escS attr s) k (pos attr s k) hlt hb (by rw [hn]; omega) (fun j hj => by
                    rw [hn] at hj
                    obtain rfl : j = 0 := by omega
                    rw [Nat.add_zero, Nat.add_zero]
                    exact hget)
                  obtain ⟨g', a1, a2⟩ := scans.scan_good (escS attr s) okS g (pos attr s k) (by omega) hg (by rw [hmv]; exact hb) (by rw [hmv]; exact ho)
                  rw [hmv, hn] at a1 a2
                  rw [hpn, hz]
                  exact ⟨g', a1, a2⟩
                · obtain ⟨g', a1, a2⟩ := scan_low (escS attr s) (pos attr s k) (escAt attr s k).size g (fun j hj => by
                    have hget := esc_get attr s k j hlt hj
                    have hbj : byteAt (escS attr s) (pos attr s k + j) = byteAt (escAt attr s k) j := by unfold escs.byteAt; rw [hget]
                    rw [hbj]
                    exact hl.low j hj) hpl hg
                  rw [hpn]
                  exact ⟨g', a1, a2⟩
              obtain ⟨g', a1, a2⟩ := hnext
              rw [a1]
              exact scan_run attr s d (k + 1) f' g' (by omega) (by omega) (by omega) a2 h
            · have hh := high s k hlt hb hn
              have hph := pos_high attr s k (Utf8.decode s k).2 hle hh
              have hpu : pos attr s (k + (Utf8.decode s k).2) ≤ (escS attr s).size := by
                obtain ⟨r, hr⟩ := esc_split attr s (k + (Utf8.decode s k).2) s.size hle
                unfold pos escS
                rw [hr, ByteArray.size_append]
                omega
              have hmv : Utf8.decode (escS attr s) (pos attr s k) = Utf8.decode s k := moved s (escS attr s) k (pos attr s k) hlt hb (by omega) (fun j hj => by
                have hj2 := pos_high attr s k j (by omega) (fun i hi => hh i (by omega))
                have hown := esc_high attr s (k + j) (hh j hj)
                have hget := esc_get attr s (k + j) 0 (by omega) (by rw [hown, own_size s (k + j) (by omega)]; omega)
                rw [Nat.add_zero, hown, own_get s (k + j) (by omega), hj2] at hget
                exact hget)
              obtain ⟨g', a1, a2⟩ := scans.scan_good (escS attr s) okS g (pos attr s k) (by omega) hg (by rw [hmv]; exact hb) (by rw [hmv]; exact ho)
              rw [hmv, ← hph] at a1 a2
              rw [a1]
              exact scan_run attr s d _ f' g' (by omega) hle e2 a2 h
    · have e : k = s.size := by omega
      rw [e, pos_end]
      exact scans.scan_end _ _ _ _ (by omega)
theorem signs_esc (attr : Bool) (s : ByteArray) (h : scans.signs s = true) : scans.signs (escS attr s) = true :=
  scan_run attr s s.size 0 s.size (escS attr s).size (by omega) (Nat.zero_le _) (by omega) (by omega) h
/-- What is escaped stands for itself. -/
theorem expand_esc (attr : Bool) (s : ByteArray) (L : List Pair) (ht : textB s = true) (hz : (escS attr s).size ≤ 1500) (he : entsB L = true) : expandR (escS attr s) L = (s, true) := by
  have hs : scans.signs s = true := by unfold textB at ht; exact (Bool.and_eq_true _ _ ▸ ht).2
  unfold expandR
  rw [if_pos ⟨by rw [signs_esc attr s hs, decide_eq_true hz]; rfl, he⟩, exp_esc]
  simp only
  rw [if_pos ht]
end Go.Proofs.YtdojkaboejndiaaGreatDoor.refs
