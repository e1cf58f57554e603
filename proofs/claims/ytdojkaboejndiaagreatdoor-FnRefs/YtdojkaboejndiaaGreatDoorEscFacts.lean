/-
  What is escaped stands for itself: plain.
-/
import Derived.Test.YtdojkaboejndiaaGreatDoorRefP
namespace Go.Proofs.YtdojkaboejndiaaGreatDoor.refs
open Go.RowKit
open escs (byteAt escA escAt escT escS)
open pairs (Pair at0)
set_option linter.unusedVariables false

/-! ### A sign stays one wherever it stands -/
theorem dec1 {n b0 b1 b2 b3 : Nat} (h : b0 < 128) : Lib.decodeN n b0 b1 b2 b3 = (b0, 1) := by unfold Lib.decodeN; rw [if_pos h]
theorem dec2 {n c b0 b1 b2 b3 : Nat} (hn : 2 ≤ n) (h : 128 ≤ c) (h1 : c < 2048) (e0 : b0 = 192 + c / 64) (e1 : b1 = 128 + c % 64) : Lib.decodeN n b0 b1 b2 b3 = (c, 2) := by
  subst e0 e1
  unfold Lib.decodeN
  rw [if_neg (by omega), if_pos (by omega), if_pos (by omega)]
  exact Prod.ext (by simp only; omega) rfl
theorem dec3 {n c b0 b1 b2 b3 : Nat} (hn : 3 ≤ n) (h : 2048 ≤ c) (h1 : c < 65536) (h2 : ¬ (55296 ≤ c ∧ c ≤ 57343)) (e0 : b0 = 224 + c / 4096) (e1 : b1 = 128 + c / 64 % 64) (e2 : b2 = 128 + c % 64) : Lib.decodeN n b0 b1 b2 b3 = (c, 3) := by
  subst e0 e1 e2
  unfold Lib.decodeN
  rw [if_neg (by omega), if_neg (by omega), if_pos (by omega), if_pos (by omega)]
  exact Prod.ext (by simp only; omega) rfl
theorem dec4 {n c b0 b1 b2 b3 : Nat} (hn : 4 ≤ n) (h : 65536 ≤ c) (h1 : c ≤ 1114111) (e0 : b0 = 240 + c / 262144) (e1 : b1 = 128 + c / 4096 % 64) (e2 : b2 = 128 + c / 64 % 64) (e3 : b3 = 128 + c % 64) : Lib.decodeN n b0 b1 b2 b3 = (c, 4) := by
  subst e0 e1 e2 e3
  unfold Lib.decodeN
  rw [if_neg (by omega), if_neg (by omega), if_neg (by omega), if_pos (by omega), if_pos (by omega)]
  exact Prod.ext (by simp only; omega) rfl
theorem ways (s : ByteArray) (k : Nat) (hk : k < s.size) :
    Utf8.decode s k = (65533, 1) ∨ (∃ c, Utf8.decode s k = (c, 1) ∧ c < 128 ∧ (s.get! k).toNat = c) ∨
    (∃ c, Utf8.decode s k = (c, 2) ∧ 128 ≤ c ∧ c < 2048 ∧ (s.get! k).toNat = 192 + c / 64 ∧ (s.get! (k + 1)).toNat = 128 + c % 64) ∨
    (∃ c, Utf8.decode s k = (c, 3) ∧ 2048 ≤ c ∧ c < 65536 ∧ ¬ (55296 ≤ c ∧ c ≤ 57343) ∧ (s.get! k).toNat = 224 + c / 4096 ∧ (s.get! (k + 1)).toNat = 128 + c / 64 % 64 ∧ (s.get! (k + 2)).toNat = 128 + c % 64) ∨
    (∃ c, Utf8.decode s k = (c, 4) ∧ 65536 ≤ c ∧ c ≤ 1114111 ∧ (s.get! k).toNat = 240 + c / 262144 ∧ (s.get! (k + 1)).toNat = 128 + c / 4096 % 64 ∧ (s.get! (k + 2)).toNat = 128 + c / 64 % 64 ∧ (s.get! (k + 3)).toNat = 128 + c % 64) := by
  rw [Lib.decode_at s k]
  rcases dec.decodeN_ways (s.size - k) _ _ _ _ (s.get! k).toNat_lt (s.get! (k + 1)).toNat_lt (s.get! (k + 2)).toNat_lt (s.get! (k + 3)).toNat_lt (by omega) with h | ⟨c, h, h1, h2⟩ | ⟨c, h, h1, h2, h3, h4, h5⟩ | ⟨c, h, h1, h2, h3, h4, h5, h6, h7⟩ | ⟨c, h, h1, h2, h3, h4, h5, h6, h7⟩
  · exact .inl h
  · exact .inr (.inl ⟨c, h, h1, h2⟩)
  · exact .inr (.inr (.inl ⟨c, h, h2, h3, h4, h5⟩))
  · exact .inr (.inr (.inr (.inl ⟨c, h, h2, h3, h4, h5, h6, h7⟩)))
  · exact .inr (.inr (.inr (.inr ⟨c, h, h2, h3, h4, h5, h6, h7⟩)))
theorem moved (s u : ByteArray) (k p : Nat) (hk : k < s.size) (hd : Utf8.decode s k ≠ (65533, 1)) (hz : p + (Utf8.decode s k).2 ≤ u.size) (hb : ∀ j, j < (Utf8.decode s k).2 → u.get! (p + j) = s.get! (k + j)) : Utf8.decode u p = Utf8.decode s k := by
  rcases ways s k hk with h | ⟨c, h, h1, h2⟩ | ⟨c, h, h1, h2, h3, h4⟩ | ⟨c, h, h1, h2, h3, h4, h5, h6⟩ | ⟨c, h, h1, h2, h3, h4, h5, h6⟩
  · exact absurd h hd
  · rw [h] at hb hz ⊢
    have e0 := hb 0 (by simp)
    simp only [Nat.add_zero] at e0
    rw [Lib.decode_at u p, e0, h2]
    exact dec1 h1
  · rw [h] at hb hz ⊢
    have e0 := hb 0 (by simp)
    have e1 := hb 1 (by simp)
    simp only [Nat.add_zero] at e0
    rw [Lib.decode_at u p, e0, e1]
    exact dec2 (by simp only at hz; omega) h1 h2 h3 h4
  · rw [h] at hb hz ⊢
    have e0 := hb 0 (by simp)
    have e1 := hb 1 (by simp)
    have e2 := hb 2 (by simp)
    simp only [Nat.add_zero] at e0
    rw [Lib.decode_at u p, e0, e1, e2]
    exact dec3 (by simp only at hz; omega) h1 h2 h3 h4 h5 h6
  · rw [h] at hb hz ⊢
    have e0 := hb 0 (by simp)
    have e1 := hb 1 (by simp)
    have e2 := hb 2 (by simp)
    have e3 := hb 3 (by simp)
    simp only [Nat.add_zero] at e0
    rw [Lib.decode_at u p, e0, e1, e2, e3]
    exact dec4 (by simp only at hz; omega) h1 h2 h3 h4 h5 h6
/-- All bytes of a sign of more than one are 128 or more. -/
theorem high (s : ByteArray) (k : Nat) (hk : k < s.size) (hd : Utf8.decode s k ≠ (65533, 1)) (hn : (Utf8.decode s k).2 ≠ 1) : ∀ j, j < (Utf8.decode s k).2 → 128 ≤ byteAt s (k + j) := by
  intro j hj
  unfold escs.byteAt
  rcases ways s k hk with h | ⟨c, h, h1, h2⟩ | ⟨c, h, h1, h2, h3, h4⟩ | ⟨c, h, h1, h2, h3, h4, h5, h6⟩ | ⟨c, h, h1, h2, h3, h4, h5, h6⟩
  · exact absurd h hd
  · rw [h] at hn; exact absurd rfl hn
  · rw [h] at hj
    rcases (show j = 0 ∨ j = 1 by simp only at hj; omega) with rfl | rfl
    · simp only [Nat.add_zero]; omega
    · omega
  · rw [h] at hj
    rcases (show j = 0 ∨ j = 1 ∨ j = 2 by simp only at hj; omega) with rfl | rfl | rfl
    · simp only [Nat.add_zero]; omega
    · omega
    · omega
  · rw [h] at hj
    rcases (show j = 0 ∨ j = 1 ∨ j = 2 ∨ j = 3 by simp only at hj; omega) with rfl | rfl | rfl | rfl
    · simp only [Nat.add_zero]; omega
    · omega
    · omega
    · omega
theorem low (s : ByteArray) (k : Nat) (hk : k < s.size) (hd : Utf8.decode s k ≠ (65533, 1)) (hn : (Utf8.decode s k).2 = 1) : byteAt s k = ((Utf8.decode s k).1 : Int) ∧ byteAt s k < 128 := by
  unfold escs.byteAt
  rcases ways s k hk with h | ⟨c, h, h1, h2⟩ | ⟨c, h, h1, h2, h3, h4⟩ | ⟨c, h, h1, h2, h3, h4, h5, h6⟩ | ⟨c, h, h1, h2, h3, h4, h5, h6⟩
  · exact absurd h hd
  · rw [h]; simp only; omega
  · rw [h] at hn; cases hn
  · rw [h] at hn; cases hn
  · rw [h] at hn; cases hn
theorem ascii (u : ByteArray) (p : Nat) (hp : p < u.size) (h : byteAt u p < 128) : Utf8.decode u p = ((u.get! p).toNat, 1) := by
  unfold escs.byteAt at h
  rw [Lib.decode_at u p]
  exact dec1 (by omega)

/-! ### Where things stand in what is escaped -/
theorem ext_data {a b : ByteArray} (h : a.data.toList = b.data.toList) : a = b := ByteArray.ext (Array.toList_inj.mp h)
theorem get_right (a b : ByteArray) (j : Nat) (hj : j < b.size) : (a ++ b).get! (a.size + j) = b.get! j := by
  have h1 : a.size + j < (a ++ b).size := by rw [ByteArray.size_append]; omega
  rw [escs.get_of _ _ h1, escs.get_of _ _ hj]
  exact ByteArray.getElem_append_right (by omega) |>.trans (by simp)
theorem get_left (a b : ByteArray) (j : Nat) (hj : j < a.size) : (a ++ b).get! j = a.get! j := by
  have h1 : j < (a ++ b).size := by rw [ByteArray.size_append]; omega
  rw [escs.get_of _ _ h1, escs.get_of _ _ hj]
  exact ByteArray.getElem_append_left hj
theorem cut_mid (a b c : ByteArray) (i j : Nat) (hj : j ≤ b.size) : (a ++ (b ++ c)).extract (a.size + i) (a.size + j) = b.extract i j := by
  apply ext_data
  obtain ⟨⟨a⟩⟩ := a
  obtain ⟨⟨b⟩⟩ := b
  obtain ⟨⟨c⟩⟩ := c
  have hj' : j ≤ b.length := hj
  have ha : (ByteArray.mk ⟨a⟩).size = a.length := rfl
  simp only [ByteArray.data_append, ByteArray.data_extract, Array.toList_append, Array.toList_extract, List.extract_eq_take_drop, ha]
  rw [List.drop_append, List.drop_of_length_le (by omega : a.length ≤ a.length + i), List.nil_append, show a.length + i - a.length = i by omega, show a.length + j - (a.length + i) = j - i by omega]
  rcases Nat.lt_or_ge i j with h | h
  · rw [List.drop_append_of_le_length (by omega), List.take_append_of_le_length (by rw [List.length_drop]; omega)]
  · rw [show j - i = 0 by omega, List.take_zero, List.take_zero]
theorem esc_split (attr : Bool) (s : ByteArray) (k : Nat) : ∀ m, k ≤ m → ∃ r, escT attr s m = escT attr s k ++ r
  | 0, h => ⟨⟨#[]⟩, by rw [show k = 0 by omega]; exact ext_data (by simp [ByteArray.data_append])⟩
  | m + 1, h => by
    by_cases e : k = m + 1
    · exact ⟨⟨#[]⟩, by rw [e]; exact ext_data (by simp [ByteArray.data_append])⟩
    · obtain ⟨r, hr⟩ := esc_split attr s k m (by omega)
      exact ⟨r ++ escAt attr s m, by rw [escT, hr, ByteArray.append_assoc]⟩
theorem esc_at (attr : Bool) (s : ByteArray) (k : Nat) (hk : k < s.size) : ∃ r, escS attr s = escT attr s k ++ (escAt attr s k ++ r) := by
  obtain ⟨r, hr⟩ := esc_split attr s (k + 1) s.size (by omega)
  exact ⟨r, by unfold escS; rw [hr, escT, ByteArray.append_assoc]⟩
def pos (attr : Bool) (s : ByteArray) (k : Nat) : Nat := (escT attr s k).size
theorem pos_next (attr : Bool) (s : ByteArray) (k : Nat) : pos attr s (k + 1) = pos attr s k + (escAt attr s k).size := by unfold pos; rw [escT, ByteArray.size_append]
theorem pos_end (attr : Bool) (s : ByteArray) : pos attr s s.size = (escS attr s).size := rfl
theorem pos_le (attr : Bool) (s : ByteArray) (k : Nat) (hk : k < s.size) : pos attr s k + (escAt attr s k).size ≤ (escS attr s).size := by
  obtain ⟨r, hr⟩ := esc_at attr s k hk
  rw [hr, ByteArray.size_append, ByteArray.size_append]
  unfold pos
  omega
theorem esc_get (attr : Bool) (s : ByteArray) (k j : Nat) (hk : k < s.size) (hj : j < (escAt attr s k).size) : (escS attr s).get! (pos attr s k + j) = (escAt attr s k).get! j := by
  obtain ⟨r, hr⟩ := esc_at attr s k hk
  rw [hr]
  unfold pos
  rw [get_right _ _ _ (by rw [ByteArray.size_append]; omega), get_left _ _ _ hj]
theorem esc_cut (attr : Bool) (s : ByteArray) (k i j : Nat) (hk : k < s.size) (hj : j ≤ (escAt attr s k).size) : (escS attr s).extract (pos attr s k + i) (pos attr s k + j) = (escAt attr s k).extract i j := by
  obtain ⟨r, hr⟩ := esc_at attr s k hk
  rw [hr]
  exact cut_mid _ _ _ i j hj

/-! ### Expanding -/
theorem semi_at (u : ByteArray) (p n : Nat) (h : ∀ j, j < n → byteAt u (p + j) ≠ 59) (h1 : byteAt u (p + n) = 59) (hz : p + n < u.size) : ∀ m f, m ≤ n → u.size ≤ p + m + f → semiF u f (p + m) = p + n := by
  intro m
  induction hd : n - m generalizing m with
  | zero =>
    intro f hm hf
    rw [show m = n by omega]
    exact semiF_stop u f (p + n) (fun h' => h'.2 h1)
  | succ d ih =>
    intro f hm hf
    obtain ⟨g, hg, hg2⟩ := semiF_go u f (p + m) hf ⟨by omega, h m (by omega)⟩
    rw [hg]
    exact ih (m + 1) (by omega) g (by omega) (by omega)
theorem semi_of (u : ByteArray) (p n : Nat) (h : ∀ j, j < n → byteAt u (p + j) ≠ 59) (h1 : byteAt u (p + n) = 59) (hz : p + n < u.size) : semi u p = p + n := semi_at u p n h h1 hz 0 u.size (Nat.zero_le _) (by omega)
/-- One step over what stands for a byte. -/
theorem step_lit (u : ByteArray) (L : List Pair) (f p : Nat) (out r x : ByteArray) (hf : u.size ≤ p + f) (hz : p + r.size ≤ u.size) (hg : ∀ j, j < r.size → u.get! (p + j) = r.get! j) (hc : u.extract (p + 1) (p + (r.size - 1)) = r.extract 1 (r.size - 1)) (h2 : 2 ≤ r.size) (h0 : byteAt r 0 = 38)
    (h59 : ∀ j, j < r.size - 1 → byteAt r j ≠ 59) (he : byteAt r (r.size - 1) = 59) (h1 : oneR (r.extract 1 (r.size - 1)) L = (x, true)) : ∃ g, expF u L f p out = expF u L g (p + r.size) (out ++ x) ∧ u.size ≤ p + r.size + g := by
  have hb : ∀ j, j < r.size → byteAt u (p + j) = byteAt r j := fun j hj => by unfold escs.byteAt; rw [hg j hj]
  have hse : semi u p = p + (r.size - 1) := semi_of u p (r.size - 1) (fun j hj => by rw [hb j (by omega)]; exact h59 j hj) (by rw [hb _ (by omega)]; exact he) (by omega)
  have hp0 : byteAt u p = 38 := by have := hb 0 (by omega); rw [Nat.add_zero] at this; rw [this]; exact h0
  have h3 : oneR (u.extract (p + 1) (semi u p)) L = (x, true) := by rw [hse, hc]; exact h1
  obtain ⟨g, hg1, hg2⟩ := expF_go u L f p out hf (by omega) hp0 (by rw [hse]; omega) (by rw [h3])
  rw [h3] at hg1
  rw [hse] at hg1 hg2
  exact ⟨g, by rw [hg1, show p + (r.size - 1) + 1 = p + r.size by omega], by omega⟩
theorem lit_lt (L : List Pair) : oneR ⟨#[108, 116]⟩ L = (⟨#[60]⟩, true) := by
  rw [one_known (by decide) (by simp [known, ByteArray.toList_eq])]
  simp [known, ByteArray.toList_eq]
theorem lit_gt (L : List Pair) : oneR ⟨#[103, 116]⟩ L = (⟨#[62]⟩, true) := by
  rw [one_known (by decide) (by simp [known, ByteArray.toList_eq])]
  simp [known, ByteArray.toList_eq]
theorem lit_amp (L : List Pair) : oneR ⟨#[97, 109, 112]⟩ L = (⟨#[38]⟩, true) := by
  rw [one_known (by decide) (by simp [known, ByteArray.toList_eq])]
  simp [known, ByteArray.toList_eq]
theorem lit_quot (L : List Pair) : oneR ⟨#[113, 117, 111, 116]⟩ L = (⟨#[34]⟩, true) := by
  rw [one_known (by decide) (by simp [known, ByteArray.toList_eq])]
  simp [known, ByteArray.toList_eq]
theorem lit_13 (L : List Pair) : oneR ⟨#[35, 49, 51]⟩ L = (⟨#[13]⟩, true) := by
  rw [one_num (by decide), show numOf ⟨#[35, 49, 51]⟩ = 13 by decide]
  exact Prod.ext (by decide) (by decide)
theorem lit_9 (L : List Pair) : oneR ⟨#[35, 57]⟩ L = (⟨#[9]⟩, true) := by
  rw [one_num (by decide), show numOf ⟨#[35, 57]⟩ = 9 by decide]
  exact Prod.ext (by decide) (by decide)
theorem lit_10 (L : List Pair) : oneR ⟨#[35, 49, 48]⟩ L = (⟨#[10]⟩, true) := by
  rw [one_num (by decide), show numOf ⟨#[35, 49, 48]⟩ = 10 by decide]
  exact Prod.ext (by decide) (by decide)
end Go.Proofs.YtdojkaboejndiaaGreatDoor.refs
