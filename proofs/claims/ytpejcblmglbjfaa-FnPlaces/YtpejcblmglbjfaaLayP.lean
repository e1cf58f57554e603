/-
  Paths that lie in one room, one behind the other.
-/
import Derived.Test.YtpejcblmglbjfaaPathRow
import Derived.Laws.CopyRow
import Derived.Laws.IdiomCopy
namespace Go.Proofs.Ytpejcblmglbjfaa.places
open Go.ChangeShapes Go.WideShapes Go.ChangeAt Go.RowKit
open trees (Tree Hdr vals noTree kid nsz nszs tsize ksize NodeIn NodesAt Bset Inc Apart Out Rng)
open ints (int0 okI IFit IntsAt MadeI)
set_option linter.unusedVariables false
def pv (rb o : Nat) (p : List Int) : Value := if p.length = 0 then .slice none 0 0 else .slice (some ⟨rb, o, none⟩) p.length p.length
def slv (rb : Nat) : Nat → List (List Int) → List Value
  | _, [] => []
  | o, p :: r => pv rb o p :: slv rb (o + p.length) r
theorem slv_len (rb : Nat) : ∀ (L : List (List Int)) (o : Nat), (slv rb o L).length = L.length
  | [], _ => rfl
  | p :: L, o => by rw [slv, List.length_cons, slv_len rb L, List.length_cons]
theorem slv_snoc (rb : Nat) (p : List Int) : ∀ (L : List (List Int)) (o : Nat), slv rb o (L ++ [p]) = slv rb o L ++ [pv rb (o + L.flatten.length) p]
  | [], o => rfl
  | q :: L, o => by
    rw [List.cons_append, slv, slv_snoc rb p L, slv, List.cons_append, List.flatten_cons, List.length_append, Nat.add_assoc]
theorem slv_at (rb : Nat) : ∀ (L : List (List Int)) (o i : Nat), i < L.length → (slv rb o L)[i]? = some (pv rb (o + (L.take i).flatten.length) (path0 L i))
  | [], o, i, h => by simp at h
  | p :: L, o, 0, h => rfl
  | p :: L, o, i + 1, h => by
    have := slv_at rb L (o + p.length) i (by simpa using h)
    rw [slv, List.getElem?_cons_succ, this, List.take_succ_cons, List.flatten_cons, List.length_append, Nat.add_assoc]
    rfl
theorem pv_one (rb o : Nat) (p : List Int) : (pv rb o p).oneCell' = true := by unfold pv; split <;> rfl
theorem int_left {L M : List Int} {i : Nat} (h : i < L.length) : int0 (L ++ M) i = int0 L i := by unfold int0; rw [List.getD_eq_getElem?_getD, List.getD_eq_getElem?_getD, List.getElem?_append_left h]
theorem int_right {L M : List Int} {i : Nat} (h : L.length ≤ i) : int0 (L ++ M) i = int0 M (i - L.length) := by unfold int0; rw [List.getD_eq_getElem?_getD, List.getD_eq_getElem?_getD, List.getElem?_append_right h]
theorem int_mid {L M R : List Int} {j : Nat} (h : j < M.length) : int0 (L ++ (M ++ R)) (L.length + j) = int0 M j := by
  rw [int_right (by omega), show L.length + j - L.length = j by omega, int_left h]
/-- The room: a block of T numbers, the first of which are F. -/
structure Room (w : World) (rb T : Nat) (F : List Int) : Prop where
  ex : ∃ cur, w.heap[rb]? = some (.cells cur 3 (0, 0)) ∧ cur.size = T ∧ ∀ j, j < F.length → cur[j]? = some (.int .i64 (int0 F j))
theorem Room.kept {w w' : World} {rb T : Nat} {F : List Int} (h : Room w rb T F) (hk : w'.heap[rb]? = w.heap[rb]?) : Room w' rb T F := by
  obtain ⟨cur, h1, h2⟩ := h.ex
  exact ⟨⟨cur, hk.trans h1, h2⟩⟩
theorem Room.lt {w : World} {rb T : Nat} {F : List Int} (h : Room w rb T F) : rb < w.heap.size := by
  obtain ⟨cur, h1, _⟩ := h.ex
  exact pairs.lt_heap h1
/-- While the paths are laid: the placer's box, what is left of the room from F's end on, and the row of paths. -/
structure Lay (w : World) (B P rb T o : Nat) (L : List (List Int)) : Prop where
  pl : P < B
  rl : rb < B
  ne : P ≠ rb
  le : B ≤ w.heap.size
  fit : o ≤ T
  box : ∃ q v, w.heap[P]? = some (.cells #[.slice (some ⟨rb, q, none⟩) (T - o) (T - o), v] 73 (0, 0)) ∧ (o < T → q = o) ∧ w.ownsRow B 32 1 v L.length (slv rb 0 L)
theorem box2 {w : World} {b : Nat} {t : TypeId} {c0 c1 : Value} (h : w.heap[b]? = some (.cells #[c0, c1] t (0, 0))) :
    (w.cell? ⟨b, 0, none⟩ = some c0 ∧ w.cell? ⟨b, 1, none⟩ = some c1) ∧ w.frozen? ⟨b, 0, none⟩ = false ∧ w.frozen? ⟨b, 1, none⟩ = false := by
  simp [World.cell?, World.frozen?, h]
theorem own_out {w w' : World} {B : Nat} {e : TypeId} {size n : Nat} {v : Value} {xs : List Value} {G : Bset} (h : w.ownsRow B e size v n xs) (ho : Out G w w') (hG : ∀ b, G b → b < B) : w'.ownsRow B e size v n xs := by
  refine ⟨h.1, ?_⟩
  rcases h.2 with hn | ⟨g, cap, cur, rfl, hb, hg, rest⟩
  · exact .inl hn
  · exact .inr ⟨g, cap, cur, rfl, hb, (ho.block g (pairs.lt_heap hg) (fun e => absurd (hG g e) (by omega))).trans hg, rest⟩
theorem Lay.room {w w' : World} {B P rb T o : Nat} {L : List (List Int)} (h : Lay w B P rb T o L) (ho : Out (fun b => b = rb) w w') : Lay w' B P rb T o L := by
  obtain ⟨q, v, h1, h2, h3⟩ := h.box
  refine ⟨h.pl, h.rl, h.ne, Nat.le_trans h.le ho.size, h.fit, q, v, (ho.block P (pairs.lt_heap h1) h.ne).trans h1, h2, own_out h3 ho (fun b e => e ▸ h.rl)⟩
theorem Lay.below {w w' : World} {B P rb T o : Nat} {L : List (List Int)} (h : Lay w B P rb T o L) (hb : Below w.heap.size w w') : Lay w' B P rb T o L := h.room (Out.of_below hb)
theorem Room.below {w w' : World} {rb T : Nat} {F : List Int} (h : Room w rb T F) (hb : Below w.heap.size w w') : Room w' rb T F := h.kept (hb.block rb h.lt)
/-- The box turned: the room cut further. -/
theorem lay_cut {w : World} {B P rb T o m q : Nat} {L : List (List Int)} (h : Lay w B P rb T o L) (hm : m ≤ T) (hq : m < T → q = m) : Lay (w.setCell ⟨P, 0, none⟩ (.slice (some ⟨rb, q, none⟩) (T - m) (T - m))) B P rb T m L ∧ Out (fun b => b = P) w (w.setCell ⟨P, 0, none⟩ (.slice (some ⟨rb, q, none⟩) (T - m) (T - m))) := by
  obtain ⟨q0, v, h1, h2, h3⟩ := h.box
  have ho : Out (fun b => b = P) w (w.setCell ⟨P, 0, none⟩ (.slice (some ⟨rb, q, none⟩) (T - m) (T - m))) := Out.set (F := fun b => b = P) (Out.refl _ _) rfl _ _
  exact ⟨⟨h.pl, h.rl, h.ne, Nat.le_trans h.le ho.size, hm, q, v, pairs.block_set _ h1, hq, own_out h3 ho (fun b e => e ▸ h.pl)⟩, ho⟩
/-- The box turned: one path more. -/
theorem lay_more {w w3 : World} {B P rb T o : Nat} {L : List (List Int)} {v v' : Value} {p : List Int} (h : Lay w B P rb T o L) (hv : w.cell? ⟨P, 1, none⟩ = some v) (hb : ∀ k, k < B → w3.heap[k]? = w.heap[k]?) (hs : w.heap.size ≤ w3.heap.size) (h3 : w3.ownsRow B 32 1 v' (L.length + 1) (slv rb 0 L ++ [pv rb L.flatten.length p])) :
    Lay (w3.setCell ⟨P, 1, none⟩ v') B P rb T o (L ++ [p]) := by
  obtain ⟨q0, v0, h1, h2, _⟩ := h.box
  have h1' := (hb P h.pl).trans h1
  have ho : Out (fun b => b = P) w3 (w3.setCell ⟨P, 1, none⟩ v') := Out.set (F := fun b => b = P) (Out.refl _ _) rfl _ _
  refine ⟨h.pl, h.rl, h.ne, Nat.le_trans h.le (Nat.le_trans hs ho.size), h.fit, q0, v', pairs.block_set _ h1', h2, ?_⟩
  have := own_out h3 ho (fun b e => e ▸ h.pl)
  rw [slv_snoc, Nat.zero_add, List.length_append]
  exact this
/-- append of one slice, that lies in a block of its own. -/
theorem add_slice {ops : Array Oper} {rest : List Oper} {o : Oper} {a : Act} {w : World} {Q : Exit → Act → World → Prop} (B n : Nat) (v : Value) (S : List Value) (u : Value) (ty : TypeId)
    (hR : w.ownsRow B 32 1 v n S) (h1 : u.oneCell' = true) (hB : B ≤ w.heap.size) (hn : n ≤ 2000000) (hgd : o.guard = none) (s y : Operand)
    (ho : o.op = .call { callee := .builtin .append, args := #[s, y], argTypes := #[30, 30] }) (hs : a.eval s = v) (q : Nat) (hy : a.eval y = .slice (some ⟨q, 0, none⟩) 1 1) (hq : q = w.heap.size)
    (h : ∀ g' c' w', w'.ownsRow B 32 1 (.slice (some ⟨g', 0, none⟩) (n + 1) c') (n + 1) (S ++ [u]) → Below B w w' → w.heap.size ≤ w'.heap.size → (∀ k, k < w.heap.size → v.ownBlock ≠ some k → w'.heap[k]? = w.heap[k]?) → wpList Try.prog ops Q rest (a.put o.dst (.slice (some ⟨g', 0, none⟩) (n + 1) c')) w') : wpList Try.prog ops Q (o :: rest) a (w.alloc (.cells #[u] ty)) := by
  obtain ⟨i0, hi, hz0, hz1, hz2⟩ := info_parts infoS
  subst hq
  refine wpList_append_own _ hgd s y 30 ho B 32 i0 (.slice none 0 0) 1 24 Try.underlying30 hi hz0 hz1 hz2 rfl (by decide) v n S hs (World.ownsRow.alloc hR _) ⟨w.heap.size, 0, none⟩ 1 1 [u] hy rfl ?_ (by simpa using h1) ?_ ?_ ?_ ?_
  · intro j u' hj
    rw [show (⟨w.heap.size, 0, none⟩ : Addr).add j = ⟨w.heap.size, j, none⟩ by rw [Addr.add_lit, Nat.zero_add]]
    exact pairs.cell_new w _ _ j u' (by rw [← Array.getElem?_toList]; exact hj)
  · unfold maxLen; omega
  · omega
  · simp; omega
  · intro v' w' ho' hg hn'
    have hsz := hg.size
    have hk : ∀ k, k < w.heap.size → v.ownBlock ≠ some k → w'.heap[k]? = w.heap[k]? := fun k hk hne => (hg.block k (by simp; omega) (fun e => hne e.symm)).trans (Below.heap_alloc w _ k hk)
    obtain ⟨g', c', rfl⟩ : ∃ g' c', v' = .slice (some ⟨g', 0, none⟩) (n + 1) c' := by
      rcases ho'.2 with ⟨_, h0⟩ | ⟨g', cap', cur, h0, _⟩
      · exact absurd h0 (by omega)
      · exact ⟨g', cap', h0⟩
    refine h g' c' w' ho' ⟨hg.os, hg.tape, hg.output, by simp at hsz; omega, fun k hkB => hk k (by omega) (fun e => ?_)⟩ (by simp at hsz; omega) hk
    have := (World.ownsRow.lt hR k e).1
    omega
/-- copy of a path to where the room goes on. -/
theorem copy_path (w : World) (ty : TypeId) (rb T oF oP d : Nat) (p F : List Int) (hd : p.length = d)
    (hF : F.length = oF) (hR : Room w rb T F) (hP : ∀ j, j < d → int0 F (oP + j) = int0 p j) (hoP : oP + d ≤ oF) (hT : oF + d + 1 ≤ T) :
    ∃ w', (Builtin.copy_ #[32, 32] ty #[.slice (some ⟨rb, oF, none⟩) (d + 1) (d + 1), pv rb oP p]).run Try.prog w = .ok (.int .i64 d) w' ∧ Room w' rb T (F ++ p) ∧ Out (fun b => b = rb) w w' := by
  have hsz : (Try.prog.info? 3).map (·.size) = some 1 := by kernel_rfl
  by_cases h0 : d = 0
  · subst h0
    have hp0 : p = [] := List.length_eq_zero_iff.1 hd
    subst hp0
    refine ⟨w, run_copy_none w 32 32 ty 3 _ _ _ _ _ _ Try.underlying32 hsz rfl, by rw [List.append_nil]; exact hR, Out.refl _ _⟩
  · obtain ⟨cur, g1, g2, g3⟩ := hR.ex
    have hpv : pv rb oP p = .slice (some ⟨rb, oP, none⟩) p.length p.length := by unfold pv; rw [if_neg (by omega)]
    rw [hpv]
    have hcl : (cellsI p).length = d := by rw [cellsI_len, Nat.mul_one, hd]
    have hrun := run_copy_row (P := Try.prog) w 32 32 ty 3 rb oF (d + 1) (d + 1) ⟨rb, oP, none⟩ p.length p.length cur _ (cellsI p) Try.underlying32 hsz g1 (by rw [hcl, hd]; exact (Nat.min_eq_left (by omega)).symm) (fun j v hj => by
      have hjd : j < d := by have := (List.getElem?_eq_some_iff.1 hj).1; rwa [hcl] at this
      rw [Addr.add_lit, ← hj, cellsI_at p j (by omega), ← hP j hjd]
      have := g3 (oP + j) (by omega)
      simp [World.cell?, g1, this]) (by rw [hcl]; omega) (cellsI_one p)
    rw [hcl] at hrun
    refine ⟨_, hrun, ⟨⟨_, setRow_heap w rb _ _ _ _ g1, ?_, fun j hj => ?_⟩⟩, ?_⟩
    · simp only [List.size_toArray, List.length_append, List.length_take, List.length_drop, Array.length_toList, hcl]
      omega
    · rw [List.length_append, hd, hF] at hj
      simp only [List.getElem?_toArray, List.append_assoc]
      by_cases hjF : j < oF
      · rw [List.getElem?_append_left (by rw [List.length_take, Array.length_toList]; omega), List.getElem?_take, if_pos hjF, Array.getElem?_toList, g3 j (by omega), int_left (by omega)]
      · rw [List.getElem?_append_right (by rw [List.length_take, Array.length_toList]; omega), List.length_take, Array.length_toList, Nat.min_eq_left (by omega), List.getElem?_append_left (by rw [hcl]; omega), cellsI_at p _ (by omega), int_right (by omega), hF]
    · exact ⟨rfl, rfl, rfl, by simp [World.setRow], fun k hk hne => setRow_other w rb k _ (fun e => hne e)⟩
theorem Room.set {w : World} {rb T o : Nat} {F : List Int} {x : Int} (h : Room w rb T F) (ho : F.length = o) (hT : o < T) : (∃ c, w.cell? ⟨rb, o, none⟩ = some c ∧ w.frozen? ⟨rb, o, none⟩ = false) ∧ Room (w.setCell ⟨rb, o, none⟩ (.int .i64 x)) rb T (F ++ [x]) := by
  obtain ⟨cur, g1, g2, g3⟩ := h.ex
  have h1 : o < cur.size := by omega
  refine ⟨⟨cur[o], by simp [World.cell?, g1, h1], by simp [World.frozen?, g1]⟩, ⟨_, pairs.block_set _ g1, by simpa using g2, fun j hj => ?_⟩⟩
  rw [List.length_append] at hj
  simp only [List.length_cons, List.length_nil] at hj
  by_cases e : j = o
  · subst e
    rw [Array.getElem?_setIfInBounds_self_of_lt h1, int_right (by omega), ho, Nat.sub_self]
    rfl
  · rw [Array.getElem?_setIfInBounds_ne (by omega), g3 j (by omega), int_left (by omega)]
end Go.Proofs.Ytpejcblmglbjfaa.places
