/-
  Rows of Attrs and of nodes that a call makes for itself: append.
-/
import Derived.Test.YtpejcblmglbjfaaOwn
import Derived.Test.YtpejcblmglbjfaaPairOwnDecl
import Derived.Deep.AppendSrc
namespace Go.Proofs.Ytpejcblmglbjfaa.trees
open Go.ChangeShapes Go.WideShapes Go.ChangeAt Go.RowKit
open pairs (Pair at0 PairsAt)
set_option linter.unusedVariables false
/-! ### Attrs -/
def cellsA : List Att → List Value
  | [] => []
  | x :: r => .string x.pre :: .string x.loc :: .string x.uri :: .string x.val :: cellsA r
theorem cellsA_len : ∀ L : List Att, (cellsA L).length = L.length * 4
  | [] => rfl
  | x :: L => by show (cellsA L).length + 1 + 1 + 1 + 1 = _; rw [cellsA_len L, List.length_cons]; omega
theorem cellsA_at : ∀ (L : List Att) (i : Nat), i < L.length → (cellsA L)[i * 4]? = some (.string (att0 L i).pre) ∧ (cellsA L)[i * 4 + 1]? = some (.string (att0 L i).loc) ∧ (cellsA L)[i * 4 + 2]? = some (.string (att0 L i).uri) ∧ (cellsA L)[i * 4 + 3]? = some (.string (att0 L i).val)
  | [], i, h => by simp at h
  | x :: L, 0, _ => ⟨rfl, rfl, rfl, rfl⟩
  | x :: L, i + 1, h => by
    have ih := cellsA_at L i (by simpa using h)
    have e : (i + 1) * 4 = i * 4 + 1 + 1 + 1 + 1 := by omega
    rw [e]
    exact ih
theorem cellsA_one : ∀ (M : List Att), ∀ u ∈ cellsA M, u.oneCell' = true
  | [], u, hu => by cases hu
  | x :: M, u, hu => by
    simp only [cellsA, List.mem_cons] at hu
    rcases hu with rfl | rfl | rfl | rfl | hu
    · rfl
    · rfl
    · rfl
    · rfl
    · exact cellsA_one M u hu
theorem cellsA_here {w : World} {ad : Addr} {M : List Att} (hp : AttsAt w (some ad) M) : ∀ j u, (cellsA M)[j]? = some u → w.cell? (ad.add j) = some u := by
  intro j u hj
  have hjl : j < M.length * 4 := by
    have := (List.getElem?_eq_some_iff.1 hj).1
    rwa [cellsA_len] at this
  obtain ⟨b, off, ha, _, hc⟩ := hp.row (by omega)
  cases ha
  obtain ⟨d0, d1, d2, d3⟩ := hc (j / 4) (by omega)
  obtain ⟨e0, e1, e2, e3⟩ := cellsA_at M (j / 4) (by omega)
  rw [Addr.add_lit]
  have hm : j % 4 = 0 ∨ j % 4 = 1 ∨ j % 4 = 2 ∨ j % 4 = 3 := by omega
  rcases hm with hm | hm | hm | hm
  · rw [show off + j / 4 * 4 = off + j by omega] at d0
    rw [show j / 4 * 4 = j by omega] at e0
    rw [d0, ← e0, hj]
  · rw [show off + j / 4 * 4 + 1 = off + j by omega] at d1
    rw [show j / 4 * 4 + 1 = j by omega] at e1
    rw [d1, ← e1, hj]
  · rw [show off + j / 4 * 4 + 2 = off + j by omega] at d2
    rw [show j / 4 * 4 + 2 = j by omega] at e2
    rw [d2, ← e2, hj]
  · rw [show off + j / 4 * 4 + 3 = off + j by omega] at d3
    rw [show j / 4 * 4 + 3 = j by omega] at e3
    rw [d3, ← e3, hj]
theorem ownsRow_cells {w : World} {B : Nat} {e : TypeId} {size n : Nat} {v : Value} {xs : List Value} (h : w.ownsRow B e size v n xs) (hn : 0 < n) : ∃ g cap cur, v = .slice (some ⟨g, 0, none⟩) n cap ∧ B ≤ g ∧ w.heap[g]? = some (.cells cur e (0, 0)) ∧ n * size ≤ cur.size ∧ ∀ j, j < n * size → cur[j]? = xs[j]? := by
  rcases h.2 with ⟨rfl, h0⟩ | ⟨g, cap, cur, rfl, h0, h1, h2, h3, h4, h5⟩
  · omega
  · refine ⟨g, cap, cur, rfl, h0, h1, by rw [h4]; exact Nat.mul_le_mul_right _ h2, fun j hj => ?_⟩
    rw [← h5, List.getElem?_take, if_pos hj]
    simp
/-! ### Nodes -/
abbrev TH := Tree × Hdr
def noTH : TH := (noTree, ⟨none, 0, none, 0, none, 0⟩)
def th0 (P : List TH) (i : Nat) : TH := P.getD i noTH
def cellsN : List TH → List Value
  | [] => []
  | x :: r => (vals x.1 x.2).toList ++ cellsN r
theorem vals_len (t : Tree) (h : Hdr) : (vals t h).toList.length = 8 := rfl
theorem cellsN_len : ∀ P : List TH, (cellsN P).length = P.length * 8
  | [] => rfl
  | x :: P => by rw [cellsN, List.length_append, vals_len, cellsN_len P, List.length_cons]; omega
theorem cellsN_append : ∀ (P R : List TH), cellsN (P ++ R) = cellsN P ++ cellsN R
  | [], _ => rfl
  | x :: P, R => by show _ ++ cellsN (P ++ R) = _; rw [cellsN_append P R, cellsN, List.append_assoc]
theorem cellsN_at : ∀ (P : List TH) (i j : Nat), i < P.length → j < 8 → (cellsN P)[i * 8 + j]? = (vals (th0 P i).1 (th0 P i).2)[j]?
  | [], i, j, h, _ => by simp at h
  | x :: P, 0, j, _, hj => by
    rw [cellsN, List.getElem?_append_left (by rw [vals_len]; omega), Nat.zero_mul, Nat.zero_add, Array.getElem?_toList]
    rfl
  | x :: P, i + 1, j, h, hj => by
    have ih := cellsN_at P i j (by simpa using h) hj
    rw [cellsN, List.getElem?_append_right (by rw [vals_len]; omega), vals_len, show (i + 1) * 8 + j - 8 = i * 8 + j by omega]
    exact ih
theorem vals_one (t : Tree) (h : Hdr) : ∀ u ∈ (vals t h).toList, u.oneCell' = true := by
  intro u hu
  simp only [vals, List.mem_cons, List.not_mem_nil, or_false] at hu
  rcases hu with rfl | rfl | rfl | rfl | rfl | rfl | rfl | rfl <;> rfl
theorem cellsN_one : ∀ (P : List TH), ∀ u ∈ cellsN P, u.oneCell' = true
  | [], u, hu => by cases hu
  | x :: P, u, hu => by
    rw [cellsN, List.mem_append] at hu
    rcases hu with hu | hu
    · exact vals_one _ _ u hu
    · exact cellsN_one P u hu
theorem cellsN_here {w : World} {b off : Nat} {P : List TH} (hc : ∀ i, i < P.length → ∀ j, j < 8 → w.cell? ⟨b, off + i * 8 + j, none⟩ = (vals (th0 P i).1 (th0 P i).2)[j]?) : ∀ j u, (cellsN P)[j]? = some u → w.cell? ((⟨b, off, none⟩ : Addr).add j) = some u := by
  intro j u hj
  have hjl : j < P.length * 8 := by
    have := (List.getElem?_eq_some_iff.1 hj).1
    rwa [cellsN_len] at this
  have h1 := hc (j / 8) (by omega) (j % 8) (by omega)
  have h2 := cellsN_at P (j / 8) (j % 8) (by omega) (by omega)
  rw [Addr.add_lit]
  rw [show off + j / 8 * 8 + j % 8 = off + j by omega] at h1
  rw [show j / 8 * 8 + j % 8 = j by omega] at h2
  rw [h1, ← h2, hj]
theorem infoN : (Try.prog.info? 28).map (fun i => (i.zero, i.size, i.bytes)) = some (some (.agg #[.int .i64 0, .string ⟨#[]⟩, .string ⟨#[]⟩, .string ⟨#[]⟩, .slice none 0 0, .slice none 0 0, .slice none 0 0, .string ⟨#[]⟩]), 8, 144) := by kernel_rfl
theorem infoA : (Try.prog.info? 87).map (fun i => (i.zero, i.size, i.bytes)) = some (some (.agg #[.string ⟨#[]⟩, .string ⟨#[]⟩, .string ⟨#[]⟩, .string ⟨#[]⟩]), 4, 64) := by kernel_rfl
/-- append of what is there to a new row. -/
theorem app_new {ops : Array Oper} {rest : List Oper} {o : Oper} {a : Act} {w : World} {Q : Exit → Act → World → Prop} (B : Nat) (v : Value) (t e : TypeId) (i0 : TypeInfo) (z : Value) (size bytes : Nat) (hu : Try.prog.underlying t = some (.slice e)) (hi : Try.prog.info? e = some i0) (hz0 : i0.zero = some z) (hz1 : i0.size = size) (hz2 : i0.bytes = bytes) (hzs : z.cells.size = size) (hsz : 0 < size) (hby : bytes ≤ 1000)
    (M : Nat) (news : List Value) (ad : Option Addr) (c : Nat) (hown : w.ownsRow B e size v 0 []) (hl : news.length = M * size) (hnews : ∀ a0, ad = some a0 → ∀ j u, news[j]? = some u → w.cell? (a0.add j) = some u) (hnone : ad = none → M = 0) (h1 : ∀ u ∈ news, u.oneCell' = true) (hM : M ≤ 4000000) (hB : B ≤ w.heap.size) (hv : v ≠ .slice none 0 0) (hgd : o.guard = none) (s x : Operand)
    (ho : o.op = .call { callee := .builtin .append, args := #[s, x], argTypes := #[t, t] }) (hs : a.eval s = v) (hx : a.eval x = .slice ad M c)
    (h : ∀ v' w', w'.ownsRow B e size v' M news → Below B w w' → v' ≠ .slice none 0 0 → wpList Try.prog ops Q rest (a.put o.dst v') w') : wpList Try.prog ops Q (o :: rest) a w := by
  cases ad with
  | none =>
    obtain rfl := hnone rfl
    have hn : news = [] := List.length_eq_zero_iff.1 (by omega)
    subst hn
    have hrun : (Builtin.append_ #[t, t] o.type #[v, .slice none 0 c]).run Try.prog w = .ok v w := by
      rcases hown.2 with ⟨rfl, _⟩ | ⟨g, cap, cur, rfl, _, _, hnc, _⟩
      · exact absurd rfl hv
      · simp [Builtin.append_, run_underlying hu, sizeOf, typeInfo, hi, Builtin.lenOf, Builtin.firstCells, storeCells]
    exact pairs.wpList_run hgd s x t ho v _ v hs hx hrun (h v w hown (Below.refl _ _) hv)
  | some ad =>
    refine wpList_append_own _ hgd s x t ho B e i0 z size bytes hu hi hz0 hz1 hz2 hzs hsz v 0 [] hs hown ad M c news hx hl (hnews ad rfl) h1 (by unfold maxLen; omega) ?_ hB ?_
    · have := Nat.mul_le_mul (show 0 + M ≤ 4000000 by omega) hby
      omega
    · intro v' w' ho' hg hn
      rw [Nat.zero_add, List.nil_append] at ho'
      exact h v' w' ho' ((Below.refl _ _).grown hg hB (fun k hk => (World.ownsRow.lt hown k hk).1)) (fun e => hv (hn.1 e).1)
theorem app_Attr {ops : Array Oper} {rest : List Oper} {o : Oper} {a : Act} {w : World} {Q : Exit → Act → World → Prop} (B : Nat) (v : Value) (M : List Att) (ad : Option Addr) (c : Nat)
    (hown : w.ownsRow B 87 4 v 0 []) (hp : AttsAt w ad M) (hM : M.length ≤ 4000000) (hB : B ≤ w.heap.size) (hv : v ≠ .slice none 0 0) (hgd : o.guard = none) (s x : Operand)
    (ho : o.op = .call { callee := .builtin .append, args := #[s, x], argTypes := #[25, 25] }) (hs : a.eval s = v) (hx : a.eval x = .slice ad M.length c)
    (h : ∀ v' w', w'.ownsRow B 87 4 v' M.length (cellsA M) → Below B w w' → v' ≠ .slice none 0 0 → wpList Try.prog ops Q rest (a.put o.dst v') w') : wpList Try.prog ops Q (o :: rest) a w := by
  obtain ⟨i0, hi, hz0, hz1, hz2⟩ := info_parts infoA
  refine app_new B v 25 87 i0 _ 4 64 Try.underlying25 hi hz0 hz1 hz2 rfl (by decide) (by decide) M.length (cellsA M) ad c hown (cellsA_len M) (fun a0 e => cellsA_here (e ▸ hp)) (fun e => ?_) (cellsA_one M) hM hB hv hgd s x ho hs hx h
  cases M with
  | nil => rfl
  | cons p r =>
    obtain ⟨b, off, ha, _⟩ := hp.row (by simp)
    rw [e] at ha; cases ha
theorem own_madeA {w : World} {B : Nat} {v : Value} {L : List Att} (h : w.ownsRow B 87 4 v L.length (cellsA L)) (hv : v ≠ .slice none 0 0) : ∃ g cap, v = .slice (some ⟨g, 0, none⟩) L.length cap ∧ B ≤ g ∧ g < w.heap.size ∧ MadeA w g L L.length := by
  rcases h.2 with ⟨rfl, _⟩ | ⟨g, cap, cur, rfl, h0, h1, h2, h3, h4, h5⟩
  · exact absurd rfl hv
  · refine ⟨g, cap, rfl, h0, pairs.lt_heap h1, cur, _, h1, by omega, fun j hj => ?_⟩
    obtain ⟨a0, a1, a2, a3⟩ := cellsA_at L j hj
    have e : ∀ i, i < L.length * 4 → cur[i]? = (cellsA L)[i]? := fun i hi => by
      rw [← h5, List.getElem?_take, if_pos hi]
      simp
    exact ⟨(e _ (by omega)).trans a0, (e _ (by omega)).trans a1, (e _ (by omega)).trans a2, (e _ (by omega)).trans a3⟩
theorem new_Attr (w : World) : (w.alloc (.cells #[] 87)).ownsRow w.heap.size 87 4 (.slice (some ⟨w.heap.size, 0, none⟩) 0 0) 0 [] := World.ownsRow_made w #[] 0 (Nat.le_refl _) (by decide) (by decide)
theorem new_AttrQ (w : World) (q : Nat) (hq : q = w.heap.size) : (w.alloc (.cells #[] 87)).ownsRow q 87 4 (.slice (some ⟨q, 0, none⟩) 0 0) 0 [] := by subst hq; exact new_Attr w
/-- append of one node to a row of the call's own. -/
theorem appn_run (w : World) (ty : TypeId) (B g n c : Nat) (xs : List Value) (t : Tree) (h : Hdr) (ad : Addr) (m : Nat) (hown : w.ownsRow B 28 8 (.slice (some ⟨g, 0, none⟩) n c) n xs) (hB : B ≤ w.heap.size) (hn : n ≤ 2000000)
    (hnews : ∀ j u, (vals t h).toList[j]? = some u → w.cell? (ad.add j) = some u) :
    ∃ g' c' w', (Builtin.append_ #[26, 26] ty #[.slice (some ⟨g, 0, none⟩) n c, .slice (some ad) 1 m]).run Try.prog w = .ok (.slice (some ⟨g', 0, none⟩) (n + 1) c') w' ∧ w'.ownsRow B 28 8 (.slice (some ⟨g', 0, none⟩) (n + 1) c') (n + 1) (xs ++ (vals t h).toList) ∧ (g' = g ∨ w.heap.size ≤ g') ∧ w.grownBy w' (some g) := by
  obtain ⟨i0, hi0, hz0, hz1, hz2⟩ := info_parts infoN
  by_cases hroom : n + 1 ≤ c
  · obtain ⟨w', hr, ho, hg⟩ := run_append_fits (P := Try.prog) w B 26 ty 28 i0 8 Try.underlying26 hi0 hz1 g n c xs hown ad 1 m (vals t h).toList (vals_len t h) hnews (vals_one t h) hroom
    exact ⟨g, c, w', hr, ho, .inl rfl, hg⟩
  · have hxl := hown.1
    rcases hown.2 with ⟨h', _⟩ | ⟨g', cap', cur, h', hbg, hg, hnc, hcm, hcs, htake⟩
    · cases h'
    · cases h'
      have hold : (Builtin.firstCells i0.size n (.slice (some ⟨g, 0, none⟩) n c)).run Try.prog w.drew = .ok xs.toArray w.drew := by
        rw [hz1]
        exact run_firstCells_some w.drew 8 n ⟨g, 0, none⟩ n c xs hxl (fun j u hu => by
          rw [Addr.add_lit, Nat.zero_add]
          have hj : j < n * 8 := by have := (List.getElem?_eq_some_iff.1 hu).1; omega
          show w.cell? ⟨g, j, none⟩ = some u
          rw [← hu, ← htake, List.getElem?_take, if_pos hj]
          simp [World.cell?, hg])
      have hs : Src Try.prog i0.size 26 (.slice (some ad) 1 m) 1 (vals t h).toList w := by
        rw [hz1]
        exact Src.ofSlice w Try.underlying26 ad 1 m _ (vals_len t h) hnews (vals_one t h)
      have hmm : n + 1 ≤ maxLen := by unfold maxLen; omega
      have hrun := run_append_grow_src (P := Try.prog) w 26 26 ty 28 i0 _ Try.underlying26 hi0 hz0 (some ⟨g, 0, none⟩) n c xs hold (.slice (some ad) 1 m) 1 (vals t h).toList hs (by omega) (by omega) (growslice_fits (by omega) (by rw [hz2]; omega))
      have hge := grownCap_ge w (n + 1) c 28
      have hle := grownCap_le_maxLen w (n + 1) c 28 hmm
      refine ⟨_, _, _, hrun, ⟨by rw [List.length_append, hxl, vals_len]; omega, .inr ⟨_, _, _, rfl, hB, heap_alloc_new w.drew _, hge, hle, ?_, ?_⟩⟩, .inr (Nat.le_refl _), ⟨rfl, rfl, rfl, by simp, fun k hk _ => Below.heap_alloc w.drew _ k hk⟩⟩
      · rw [Array.size_append, size_zeroCells]
        show (xs ++ (vals t h).toList).toArray.size + (grownCap w (n + 1) c 28 - (n + 1)) * 8 = _
        rw [List.size_toArray, List.length_append, hxl, vals_len]
        omega
      · rw [Array.toList_append, List.toList_toArray, List.take_append_of_le_length (by rw [List.length_append, hxl, vals_len]; omega)]
        exact List.take_of_length_le (by rw [List.length_append, hxl, vals_len]; omega)
/-- A row of nodes that a call makes for itself: what it holds, and what these lead to. -/
structure RowV (w : World) (B g n c : Nat) (P : List TH) (G : Nat → Bset) : Prop where
  own : w.ownsRow B 28 8 (.slice (some ⟨g, 0, none⟩) n c) n (cellsN P)
  len : P.length = n
  rng : ∀ i, Inc (G i) (fun b => B ≤ b ∧ b < w.heap.size)
  not : ∀ i, ¬ G i g
  apart : ∀ i j, i ≠ j → Apart (G i) (G j)
  kids : ∀ i, i < P.length → OwnN w (th0 P i).1 (th0 P i).2 (G i)
theorem RowV.lt {w : World} {B g n c : Nat} {P : List TH} {G : Nat → Bset} (h : RowV w B g n c P G) : B ≤ g ∧ g < w.heap.size := World.ownsRow.lt h.own g rfl
theorem RowV.cap {w : World} {B g n c : Nat} {P : List TH} {G : Nat → Bset} (h : RowV w B g n c P G) : n ≤ c := by
  rcases h.own.2 with ⟨e, _⟩ | ⟨g', c', cur, e, _, _, h2, _⟩
  · cases e
  · cases e; exact h2
theorem RowV.below {w w' : World} {B g n c : Nat} {P : List TH} {G : Nat → Bset} (h : RowV w B g n c P G) (hb : Below w.heap.size w w') : RowV w' B g n c P G :=
  ⟨World.ownsRow.kept h.own (row := none) ⟨hb.os, hb.tape, hb.output, hb.size, fun k hk _ => hb.block k hk⟩ (by simp [Value.ownBlock]), h.len, fun i b hb' => ⟨(h.rng i b hb').1, Nat.lt_of_lt_of_le (h.rng i b hb').2 hb.size⟩, h.not, h.apart, fun i hi => (h.kids i hi).below hb⟩
def trees1 (P : List TH) : List Tree := P.map (·.1)
theorem kid_th (P : List TH) (i : Nat) (hi : i < P.length) : kid (trees1 P) i = (th0 P i).1 := by
  unfold kid trees1 th0
  rw [List.getD_eq_getElem?_getD, List.getD_eq_getElem?_getD, List.getElem?_map, List.getElem?_eq_getElem hi]
  rfl
theorem RowV.row {w : World} {B g n c : Nat} {P : List TH} {G : Nat → Bset} (h : RowV w B g n c P G) : OwnL w (some ⟨g, 0, none⟩) (trees1 P) (fun b => B ≤ b ∧ b < w.heap.size) := by
  intro h0
  have hl : (trees1 P).length = P.length := by unfold trees1; rw [List.length_map]
  obtain ⟨g', cap, cur, hv, hB, hg, hr, hx⟩ := ownsRow_cells h.own (by have := h.len; omega)
  cases hv
  refine ⟨g, cur, _, G, rfl, h.lt, hg, by rw [hl, h.len]; exact hr, h.rng, h.not, h.apart, fun i hi => ?_⟩
  rw [hl] at hi
  refine ⟨(th0 P i).2, by rw [kid_th P i hi]; exact h.kids i hi, fun j hj => ?_⟩
  rw [kid_th P i hi, hx (i * 8 + j) (by have := h.len; omega)]
  exact cellsN_at P i j hi hj
theorem th0_left {P R : List TH} {i : Nat} (hi : i < P.length) : th0 (P ++ R) i = th0 P i := by
  unfold th0
  rw [List.getD_eq_getElem?_getD, List.getElem?_append_left hi, ← List.getD_eq_getElem?_getD]
theorem th0_last {P : List TH} {x : TH} : th0 (P ++ [x]) P.length = x := by
  unfold th0
  rw [List.getD_eq_getElem?_getD, List.getElem?_append_right (Nat.le_refl _), Nat.sub_self]
  rfl
/-- One more node: the row behind the append. F is what the new node owns. -/
theorem RowV.more {w w' : World} {B g n c g' c' : Nat} {P : List TH} {G : Nat → Bset} {x : TH} {F : Bset} (h : RowV w B g n c P G) (ho : w'.ownsRow B 28 8 (.slice (some ⟨g', 0, none⟩) (n + 1) c') (n + 1) (cellsN P ++ (vals x.1 x.2).toList)) (hg : g' = g ∨ w.heap.size ≤ g') (hgr : w.grownBy w' (some g))
    (hx : OwnN w x.1 x.2 F) (hF : Inc F (fun b => B ≤ b ∧ b < w.heap.size)) (hFg : ¬ F g) (hFa : ∀ i, Apart (G i) F) : RowV w' B g' (n + 1) c' (P ++ [x]) (fun i => if i = n then F else G i) := by
  have hout : Out (fun b => b = g) w w' := Out.grown hgr rfl
  have hG : ∀ i, Apart (if i = n then F else G i) (fun b => b = g) := fun i b hb e => by
    by_cases hi : i = n
    · rw [if_pos hi] at hb; exact hFg (e ▸ hb)
    · rw [if_neg hi] at hb; exact h.not i (e ▸ hb)
  have hrng : ∀ i, Inc (if i = n then F else G i) (fun b => B ≤ b ∧ b < w.heap.size) := fun i => by
    by_cases hi : i = n
    · rw [if_pos hi]; exact hF
    · rw [if_neg hi]; exact h.rng i
  refine ⟨by rw [cellsN_append]; simp only [cellsN, List.append_nil]; exact ho, by rw [List.length_append, h.len]; rfl, fun i b hb => ⟨(hrng i b hb).1, Nat.lt_of_lt_of_le (hrng i b hb).2 hgr.size⟩, fun i hb => ?_, fun i j hij b hb hc => ?_, fun i hi => ?_⟩
  · rcases hg with rfl | hg
    · exact hG i _ hb rfl
    · have := (hrng i _ hb).2; omega
  · by_cases hi : i = n
    · rw [if_pos hi] at hb
      rw [if_neg (by omega)] at hc
      exact hFa j b hc hb
    · rw [if_neg hi] at hb
      by_cases hj : j = n
      · rw [if_pos hj] at hc; exact hFa i b hb hc
      · rw [if_neg hj] at hc; exact h.apart i j hij b hb hc
  · rw [List.length_append, h.len] at hi
    by_cases e : i = n
    · show OwnN w' _ _ (if i = n then F else G i)
      rw [if_pos e, e, ← h.len, th0_last]
      have := hG n
      rw [if_pos rfl] at this
      exact hx.out hout this
    · have hlt : i < P.length := by have := h.len; simp at hi; omega
      have := hG i
      rw [if_neg e] at this
      show OwnN w' _ _ (if i = n then F else G i)
      rw [if_neg e, th0_left hlt]
      exact (h.kids i hlt).out hout this
end Go.Proofs.Ytpejcblmglbjfaa.trees
