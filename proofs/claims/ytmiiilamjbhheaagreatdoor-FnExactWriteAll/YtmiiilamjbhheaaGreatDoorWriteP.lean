/-
  What is written of a tree, plain, and its sum.
-/
import Derived.Test.YtmiiilamjbhheaaGreatDoorNodeRight
import Derived.Test.YtmiiilamjbhheaaGreatDoorNames
import Derived.Test.YtmiiilamjbhheaaGreatDoorEscP
namespace Go.Proofs.YtmiiilamjbhheaaGreatDoor.trees
open Go.RowKit
open pairs (Pair at0)
open names (joinR)
open escs (escS)
set_option linter.unusedVariables false
/-- A name, and what is said of it, behind o. -/
def valW (o name v : ByteArray) : ByteArray := o ++ ⟨#[32]⟩ ++ name ++ ⟨#[61, 34]⟩ ++ escS true v ++ ⟨#[34]⟩
/-- What declares a part ahead. -/
def xmlnsW (p : ByteArray) : ByteArray := if p.size = 0 then ⟨#[120, 109, 108, 110, 115]⟩ else ⟨#[120, 109, 108, 110, 115, 58]⟩ ++ p
def declW (o : ByteArray) (L : List Pair) : Nat → ByteArray
  | 0 => o
  | i + 1 => valW (declW o L i) (xmlnsW (at0 L i).1) (at0 L i).2
def attW (o : ByteArray) (L : List Att) : Nat → ByteArray
  | 0 => o
  | i + 1 => valW (attW o L i) (joinR (att0 L i).pre (att0 L i).loc) (att0 L i).val
/-- What an element begins with. -/
def openW (p l : ByteArray) (ds : List Pair) (ats : List Att) : ByteArray := attW (declW (⟨#[60]⟩ ++ joinR p l) ds ds.length) ats ats.length
def elW (p l : ByteArray) (ds : List Pair) (ats : List Att) (n : Nat) (s : ByteArray) : ByteArray :=
  if n = 0 then openW p l ds ats ++ ⟨#[47, 62]⟩ else openW p l ds ats ++ ⟨#[62]⟩ ++ s ++ ⟨#[60, 47]⟩ ++ joinR p l ++ ⟨#[62]⟩
def noteW (x : ByteArray) : ByteArray := ⟨#[60, 33, 45, 45]⟩ ++ x ++ ⟨#[45, 45, 62]⟩
def toldW (l x : ByteArray) : ByteArray := if x.size = 0 then ⟨#[60, 63]⟩ ++ l ++ ⟨#[63, 62]⟩ else ⟨#[60, 63]⟩ ++ l ++ ⟨#[32]⟩ ++ x ++ ⟨#[63, 62]⟩
def nodeW (k : Int) (p l x : ByteArray) (ds : List Pair) (ats : List Att) (n : Nat) (s : ByteArray) : ByteArray :=
  bif k == 2 then escS false x else bif k == 3 then noteW x else bif k == 4 then toldW l x else bif k == 0 then s else elW p l ds ats n s
mutual
def writeT : Tree → ByteArray
  | .mk k p l u x ds ats ks => nodeW k p l x ds ats ks.length (writeL ks)
def writeL : List Tree → ByteArray
  | [] => ⟨#[]⟩
  | t :: ts => writeT t ++ writeL ts
end
def writeTo (L : List Tree) : Nat → ByteArray
  | 0 => ⟨#[]⟩
  | i + 1 => writeTo L i ++ writeT (kid L i)
theorem writeTo_cons (t : Tree) (ts : List Tree) : ∀ k, writeTo (t :: ts) (k + 1) = writeT t ++ writeTo ts k
  | 0 => by
    show ByteArray.empty ++ writeT t = writeT t ++ ByteArray.empty
    rw [ByteArray.append_empty, ByteArray.empty_append]
  | k + 1 => by
    rw [writeTo, writeTo_cons t ts k, writeTo]
    show _ ++ writeT (kid ts k) = _
    rw [ByteArray.append_assoc]
theorem writeL_eq : ∀ L : List Tree, writeL L = writeTo L L.length
  | [] => by rw [writeL]; rfl
  | t :: ts => by rw [writeL, writeL_eq ts, List.length_cons, writeTo_cons]
/-! ### How long -/
theorem esc_len (a : Bool) (s : ByteArray) : (escS a s).size ≤ 6 * s.size := escs.escT_size a s s.size
theorem join_len (p l : ByteArray) : (joinR p l).size ≤ p.size + 1 + l.size := by
  have h : (names.joined p l).size ≤ p.size + 1 + l.size := by
    unfold names.joined
    by_cases e : p.size = 0
    · rw [if_pos e]; omega
    · rw [if_neg e, ByteArray.size_append, ByteArray.size_append]
      show p.size + 1 + l.size ≤ _
      omega
  unfold joinR
  by_cases e : names.joinB p l (names.splitT (names.joined p l)) = true
  · rw [if_pos e]; exact h
  · rw [if_neg e]; exact Nat.zero_le _
theorem xmlns_len (p : ByteArray) : (xmlnsW p).size ≤ 6 + p.size := by
  unfold xmlnsW
  split
  · show 5 ≤ _; omega
  · rw [ByteArray.size_append]; show 6 + p.size ≤ _; omega
theorem val_len (o n v : ByteArray) : (valW o n v).size ≤ o.size + n.size + 6 * v.size + 4 := by
  unfold valW
  simp only [ByteArray.size_append]
  have := esc_len true v
  show o.size + 1 + n.size + 2 + _ + 1 ≤ _
  omega
theorem decl_len (o : ByteArray) (L : List Pair) : ∀ i, (declW o L i).size ≤ o.size + 10 * i + 6 * pairs.sizeTo L i
  | 0 => by show o.size ≤ _; omega
  | i + 1 => by
    rw [declW, pairs.sizeTo]
    have h1 := val_len (declW o L i) (xmlnsW (at0 L i).1) (at0 L i).2
    have h2 := xmlns_len (at0 L i).1
    have h3 := decl_len o L i
    omega
theorem att_len (o : ByteArray) (L : List Att) : ∀ i, (attW o L i).size ≤ o.size + 5 * i + 6 * asizeTo L i
  | 0 => by show o.size ≤ _; omega
  | i + 1 => by
    rw [attW, asizeTo]
    have h1 := val_len (attW o L i) (joinR (att0 L i).pre (att0 L i).loc) (att0 L i).val
    have h2 := join_len (att0 L i).pre (att0 L i).loc
    have h3 := att_len o L i
    unfold Att.size
    omega
theorem open_len (p l : ByteArray) (ds : List Pair) (ats : List Att) : (openW p l ds ats).size ≤ 2 + p.size + l.size + 10 * (ds.length + pairs.sizeTo ds ds.length) + 6 * smallA ats := by
  unfold openW
  have h1 := att_len (declW (⟨#[60]⟩ ++ joinR p l) ds ds.length) ats ats.length
  have h2 := decl_len (⟨#[60]⟩ ++ joinR p l) ds ds.length
  have h3 := join_len p l
  rw [ByteArray.size_append] at h2
  have h4 : (⟨#[60]⟩ : ByteArray).size = 1 := rfl
  unfold smallA
  omega
theorem el_len (p l : ByteArray) (ds : List Pair) (ats : List Att) (n : Nat) (s : ByteArray) : (elW p l ds ats n s).size ≤ 8 + 2 * (p.size + l.size) + 10 * (ds.length + pairs.sizeTo ds ds.length) + 6 * smallA ats + s.size := by
  have h1 := open_len p l ds ats
  have h3 := join_len p l
  unfold elW
  split
  · rw [ByteArray.size_append]
    show _ + 2 ≤ _
    omega
  · simp only [ByteArray.size_append]
    show _ + 1 + s.size + 2 + _ + 1 ≤ _
    omega
theorem note_len (x : ByteArray) : (noteW x).size ≤ 7 + x.size := by
  unfold noteW
  simp only [ByteArray.size_append]
  show 4 + _ + 3 ≤ _
  omega
theorem told_len (l x : ByteArray) : (toldW l x).size ≤ 5 + l.size + x.size := by
  unfold toldW
  split
  · simp only [ByteArray.size_append]; show 2 + _ + 2 ≤ _; omega
  · simp only [ByteArray.size_append]; show 2 + _ + 1 + _ + 2 ≤ _; omega
mutual
theorem write_len : ∀ t : Tree, (writeT t).size ≤ 12 * nsz t + 12
  | .mk k p l u x ds ats ks => by
    rw [writeT, nsz]
    have h0 := writeL_len ks
    have h1 := esc_len false x
    have h2 := note_len x
    have h3 := told_len l x
    have h4 := el_len p l ds ats ks.length (writeL ks)
    unfold nodeW
    cases (k == 2)
    · cases (k == 3)
      · cases (k == 4)
        · cases (k == 0)
          · simp only [cond_false]; omega
          · simp only [cond_false, cond_true]; omega
        · simp only [cond_false, cond_true]; omega
      · simp only [cond_false, cond_true]; omega
    · simp only [cond_true]; omega
theorem writeL_len : ∀ L : List Tree, (writeL L).size ≤ 12 * nszs L
  | [] => by rw [writeL]; exact Nat.zero_le _
  | t :: ts => by
    rw [writeL, nszs, ByteArray.size_append]
    have h1 := write_len t
    have h2 := writeL_len ts
    omega
end
theorem writeTo_len (L : List Tree) : ∀ i, i ≤ L.length → (writeTo L i).size ≤ 12 * nszs L
  | i, h => by
    have h1 : ∀ j, (writeTo L j).size ≤ 12 * (j + nszTo L j) := by
      intro j
      induction j with
      | zero => exact Nat.zero_le _
      | succ j ih =>
        rw [writeTo, nszTo, ByteArray.size_append]
        have := write_len (kid L j)
        omega
    have h2 : ∀ j k, j ≤ k → nszTo L j ≤ nszTo L k := by
      intro j k hjk
      induction hjk with
      | refl => exact Nat.le_refl _
      | step _ ih => rw [nszTo]; omega
    have h3 := h1 i
    have h4 := h2 i L.length h
    have h5 := nszs_eq L
    omega
/-! ### Behind what stands there -/
theorem valW_app (a o n v : ByteArray) : valW (a ++ o) n v = a ++ valW o n v := by
  unfold valW
  simp only [ByteArray.append_assoc]
theorem declW_app (a o : ByteArray) (L : List Pair) : ∀ i, declW (a ++ o) L i = a ++ declW o L i
  | 0 => rfl
  | i + 1 => by rw [declW, declW_app a o L i, valW_app, declW]
theorem attW_app (a o : ByteArray) (L : List Att) : ∀ i, attW (a ++ o) L i = a ++ attW o L i
  | 0 => rfl
  | i + 1 => by rw [attW, attW_app a o L i, valW_app, attW]
theorem open_app (o p l : ByteArray) (ds : List Pair) (ats : List Att) : attW (declW (o ++ ⟨#[60]⟩ ++ joinR p l) ds ds.length) ats ats.length = o ++ openW p l ds ats := by
  rw [ByteArray.append_assoc, declW_app, attW_app]
  rfl
/-- Pieces, one behind the other. -/
def catTo (o : ByteArray) : List ByteArray → ByteArray
  | [] => o
  | a :: L => catTo (o ++ a) L
theorem catTo_size (o : ByteArray) : ∀ (L : List ByteArray), o.size ≤ (catTo o L).size := by
  intro L
  induction L generalizing o with
  | nil => exact Nat.le_refl _
  | cons a L ih =>
    have := ih (o ++ a)
    rw [ByteArray.size_append] at this
    show _ ≤ (catTo (o ++ a) L).size
    omega
theorem catTo_append (o : ByteArray) (L M : List ByteArray) : catTo o (L ++ M) = catTo (catTo o L) M := by
  induction L generalizing o with
  | nil => rfl
  | cons a L ih => exact ih (o ++ a)
theorem asizeTo_le (L : List Att) : ∀ {j k : Nat}, j ≤ k → asizeTo L j ≤ asizeTo L k
  | j, 0, h => by rw [show j = 0 by omega]; exact Nat.le_refl _
  | j, k + 1, h => by
    by_cases e : j = k + 1
    · rw [e]; exact Nat.le_refl _
    · have := asizeTo_le L (j := j) (k := k) (by omega)
      rw [asizeTo]; omega
theorem sizeTo_le (L : List Pair) : ∀ {j k : Nat}, j ≤ k → pairs.sizeTo L j ≤ pairs.sizeTo L k
  | j, 0, h => by rw [show j = 0 by omega]; exact Nat.le_refl _
  | j, k + 1, h => by
    by_cases e : j = k + 1
    · rw [e]; exact Nat.le_refl _
    · have := sizeTo_le L (j := j) (k := k) (by omega)
      rw [pairs.sizeTo]; omega
/-! ### Nodes that may not be right -/
def wrR (t : Tree) : ByteArray := bif nodeOkB t then writeT t else ⟨#[]⟩
def wrTo (L : List Tree) : Nat → ByteArray
  | 0 => ⟨#[]⟩
  | i + 1 => wrTo L i ++ wrR (kid L i)
theorem wrR_len (t : Tree) : (wrR t).size ≤ 12 * nsz t + 12 := by
  unfold wrR
  cases nodeOkB t
  · exact Nat.zero_le _
  · exact write_len t
theorem wrTo_len (L : List Tree) : ∀ j, (wrTo L j).size ≤ 12 * (j + nszTo L j)
  | 0 => Nat.zero_le _
  | j + 1 => by
    rw [wrTo, nszTo, ByteArray.size_append]
    have h1 := wrR_len (kid L j)
    have h2 := wrTo_len L j
    omega
theorem nszTo_le (L : List Tree) : ∀ {j k : Nat}, j ≤ k → nszTo L j ≤ nszTo L k
  | j, 0, h => by rw [show j = 0 by omega]; exact Nat.le_refl _
  | j, k + 1, h => by
    by_cases e : j = k + 1
    · rw [e]; exact Nat.le_refl _
    · have := nszTo_le L (j := j) (k := k) (by omega)
      rw [nszTo]; omega
theorem writeTo_sz (L : List Tree) : ∀ j, (writeTo L j).size ≤ 12 * (j + nszTo L j)
  | 0 => Nat.zero_le _
  | j + 1 => by
    rw [writeTo, nszTo, ByteArray.size_append]
    have h1 := write_len (kid L j)
    have h2 := writeTo_sz L j
    omega
/-! ### Sums -/
def hashB (h : Nat) (b : UInt8) : Nat := ((h ^^^ b.toNat) * 16777619) % 4294967296
def hashS (h : Nat) (s : ByteArray) : Nat := s.data.toList.foldl hashB h
def hashR (t : Tree) : Nat := hashS 2166136261 (wrR t)
theorem hashS_append (h : Nat) (s t : ByteArray) : hashS h (s ++ t) = hashS (hashS h s) t := by
  unfold hashS
  rw [ByteArray.data_append, Array.toList_append, List.foldl_append]
theorem hashS_none (h : Nat) : hashS h ⟨#[]⟩ = h := rfl
theorem hashB_lt (h : Nat) (b : UInt8) : hashB h b < 4294967296 := Nat.mod_lt _ (by decide)
theorem hashS_lt (h : Nat) (hh : h < 4294967296) (s : ByteArray) : hashS h s < 4294967296 := by
  unfold hashS
  have : ∀ (L : List UInt8) (h : Nat), h < 4294967296 → L.foldl hashB h < 4294967296 := by
    intro L
    induction L with
    | nil => intro h hh; exact hh
    | cons b L ih => intro h _; exact ih _ (hashB_lt h b)
  exact this _ _ hh
theorem hashS_one (h : Nat) (b : UInt8) : hashS h ⟨#[b]⟩ = hashB h b := by
  unfold hashS
  rw [show (⟨#[b]⟩ : ByteArray).data.toList = [b] from rfl, List.foldl_cons, List.foldl_nil]
theorem hashS_more (h : Nat) (s : ByteArray) (i : Nat) (hi : i < s.size) : hashS h (s.extract 0 (i + 1)) = hashB (hashS h (s.extract 0 i)) (s.get! i) := by
  have e : s.extract 0 (i + 1) = s.extract 0 i ++ s.extract i (i + 1) := by
    rw [ByteArray.extract_append_extract]
    congr 1 <;> omega
  rw [e, hashS_append]
  have e1 : s.extract i (i + 1) = ⟨#[s.get! i]⟩ := by
    rw [escs.get_of s i hi]
    apply ByteArray.ext
    obtain ⟨a⟩ := s
    rw [ByteArray.data_extract]
    show a.extract i (i + 1) = #[a[i]]
    apply Array.ext_getElem?
    intro j
    have hk : i < a.size := hi
    cases j with
    | zero => simp [Array.getElem?_extract, hk]; omega
    | succ j => simp [Array.getElem?_extract]; omega
  rw [e1, hashS_one]
theorem hashS_all (h : Nat) (s : ByteArray) : hashS h (s.extract 0 s.size) = hashS h s := by
  rw [ByteArray.extract_zero_size]
end Go.Proofs.YtmiiilamjbhheaaGreatDoor.trees
