/-
  A region that draws its order and whose last operation comes behind all others (a store): the others by CalmTail, then the last one, from whatever world they leave. So the last one may turn what was there.
-/
import Derived.Test.YtpejcblmglbjfaaCalmTail
namespace Go.Proofs.Ytpejcblmglbjfaa.quiets
open Go.RowKit
set_option linter.unusedVariables false
section
variable {P : Program}
/-- What is reckoned: edges lead back, and the last one waits for all others. -/
def lastB (l : List Oper) (o : Oper) : Bool :=
  (List.range l.length).all (fun i => match l[i]? with | none => false | some x => x.after.toList.all (fun e => !Region.binds .any e || decide (e.on < i)) && (match x.guard with | none => true | some (j, _) => decide (j < l.length))) &&
  o.after.toList.all (fun e => !Region.binds .any e || decide (e.on < l.length)) && (List.range l.length).all (fun i => o.after.toList.any (fun e => Region.binds .any e && decide (e.on = i)) || (List.range l.length).any (fun j => decide (i < j) && match l[j]? with | none => false | some x => x.after.toList.any (fun e => Region.binds .any e && decide (e.on = i))))
structure LastOk (l : List Oper) (o : Oper) : Prop where
  back : ∀ (i : Nat) (x : Oper), l[i]? = some x → ∀ e ∈ x.after, Region.binds .any e = true → e.on < i
  grd : ∀ (i : Nat) (x : Oper), l[i]? = some x → ∀ j b, x.guard = some (j, b) → j < l.length
  less : ∀ e ∈ o.after, Region.binds .any e = true → e.on < l.length
  all : ∀ i, i < l.length → (∃ e ∈ o.after, Region.binds .any e = true ∧ e.on = i) ∨ ∃ (j : Nat) (x : Oper), i < j ∧ l[j]? = some x ∧ ∃ e ∈ x.after, Region.binds .any e = true ∧ e.on = i
theorem last_ok {l : List Oper} {o : Oper} (h : lastB l o = true) : LastOk l o := by
  simp only [lastB, Bool.and_eq_true, List.all_eq_true, List.mem_range] at h
  obtain ⟨⟨h1, h2⟩, h3⟩ := h
  have key : ∀ i x, l[i]? = some x → (∀ e ∈ x.after.toList, (!Region.binds .any e || decide (e.on < i)) = true) ∧ (match x.guard with | none => true | some (j, _) => decide (j < l.length)) = true := fun i x hx => by
    have hlt : i < l.length := (List.getElem?_eq_some_iff.1 hx).1
    have := h1 i hlt
    rw [hx] at this
    simpa only [Bool.and_eq_true, List.all_eq_true] using this
  refine ⟨fun i x hx e he hb => ?_, fun i x hx j b hg => ?_, fun e he hb => ?_, fun i hi => ?_⟩
  · have := (key i x hx).1 e (by simpa using he)
    simpa [hb] using this
  · have := (key i x hx).2
    rw [hg] at this
    simpa using this
  · have := h2 e (by simpa using he)
    simpa [hb] using this
  · have := h3 i hi
    rw [Bool.or_eq_true] at this
    rcases this with this | this
    · rw [List.any_eq_true] at this
      obtain ⟨e, he, hh⟩ := this
      simp only [Bool.and_eq_true, decide_eq_true_eq] at hh
      exact .inl ⟨e, by simpa using he, hh.1, hh.2⟩
    · rw [List.any_eq_true] at this
      obtain ⟨j, hj, hh⟩ := this
      rw [List.mem_range] at hj
      rw [Bool.and_eq_true, decide_eq_true_eq, List.getElem?_eq_getElem hj] at hh
      have h4 := hh.2
      simp only [] at h4
      rw [List.any_eq_true] at h4
      obtain ⟨e, he, h5⟩ := h4
      simp only [Bool.and_eq_true, decide_eq_true_eq] at h5
      exact .inr ⟨j, l[j], hh.1, List.getElem?_eq_getElem hj, e, by simpa using he, h5.1, h5.2⟩
/-- Where one has come, what it waits for has. -/
def Closed (l : List Oper) (listed : Array Bool) : Prop := ∀ (j : Nat) (x : Oper), l[j]? = some x → listed.getD j false = true → ∀ e ∈ x.after, Region.binds .any e = true → listed.getD e.on false = true
/-- If all that the last one waits for has come, all have come. -/
theorem all_come {l : List Oper} {o : Oper} (hl : LastOk l o) {listed : Array Bool} (hc : Closed l listed) (h : ∀ e ∈ o.after, Region.binds .any e = true → listed.getD e.on false = true) : ∀ n i, l.length - i ≤ n → i < l.length → listed.getD i false = true
  | 0, i, hn, hi => by omega
  | n + 1, i, hn, hi => by
    rcases hl.all i hi with ⟨e, he, hb, rfl⟩ | ⟨j, x, hij, hx, e, he, hb, rfl⟩
    · exact h e he hb
    · exact hc j x hx (all_come hl hc h n j (by omega) (List.getElem?_eq_some_iff.1 hx).1) e he hb
theorem Closed.set {l : List Oper} {listed : Array Bool} {i : Nat} (hc : Closed l listed) (hi : ∀ x, l[i]? = some x → ∀ e ∈ x.after, Region.binds .any e = true → listed.getD e.on false = true) : Closed l (listed.setIfInBounds i true) := by
  have up : ∀ k, listed.getD k false = true → (listed.setIfInBounds i true).getD k false = true := fun k hk => by
    by_cases e : i = k
    · subst e
      have hlt : i < listed.size := by
        refine Nat.lt_of_not_le fun hge => ?_
        simp [Array.getD, Nat.not_lt.2 hge] at hk
      simp [Array.getD, hlt]
    · rw [getD_set_ne false e]
      exact hk
  intro j x hx hj e he hb
  by_cases ej : i = j
  · subst ej
    exact up _ (hi x hx e he hb)
  · rw [getD_set_ne false ej] at hj
    exact up _ (hc j x hx hj e he hb)
theorem getD_push {listed : Array Bool} {i : Nat} {d : Bool} (h : i < listed.size) : (listed.push false).getD i d = listed.getD i d := by
  simp [Array.getD, h, Nat.lt_succ_of_lt h, Array.getElem_push_lt]
theorem ops_old {l : List Oper} {o : Oper} {i : Nat} (h : i < l.length) : (l ++ [o]).toArray[i]? = l.toArray[i]? := by simp [List.getElem?_append_left h]
theorem ops_new {l : List Oper} {o : Oper} : (l ++ [o]).toArray[l.length]? = some o := by simp
/-- Nothing is ready: all have come. -/
theorem ready_nil {l : List Oper} {o : Oper} (hl : LastOk l o) {listed : Array Bool} (hs : listed.size = l.length) (h : Region.ready .any l.toArray listed = []) : ∀ i, i < l.length → listed.getD i true = true := by
  intro i
  induction i using Nat.strongRecOn with
  | ind i ih =>
    intro hi
    cases hc : listed.getD i true with
    | true => rfl
    | false =>
      exfalso
      have hm : i ∈ Region.ready .any l.toArray listed := mem_ready.2 ⟨hc, l[i], by simp [hi], fun e he hb => by
        have h1 := hl.back i l[i] (List.getElem?_eq_getElem hi) e he hb
        have h2 := ih e.on h1 (by omega)
        have h3 : e.on < listed.size := by omega
        simpa [Array.getD, h3] using h2⟩
      rw [h] at hm
      cases hm
theorem yield_old {l : List Oper} {o : Oper} {j : Nat} (tmps : Array Value) (h : j < l.length) : yielded (l ++ [o]).toArray tmps j = yielded l.toArray tmps j := by
  unfold yielded
  rw [ops_old h]
theorem wanted_old {l : List Oper} {o : Oper} (hl : LastOk l o) {i : Nat} {x : Oper} (hx : l[i]? = some x) (tmps : Array Value) : Region.wanted x (yielded (l ++ [o]).toArray tmps) = Region.wanted x (yielded l.toArray tmps) := by
  unfold Region.wanted
  cases hg : x.guard with
  | none => rfl
  | some g =>
    obtain ⟨j, b⟩ := g
    simp only [yield_old tmps (hl.grd i x hx j b hg)]
theorem op_old {l : List Oper} {o : Oper} (hl : LastOk l o) {i : Nat} (hi : i < l.length) {K K' : Act → World → Prop} {K0 : Act → World → Prop} {Q : Exit → Act → World → Prop} {a : Act} {w : World} (hK : ∀ a w, K a w → K' a w) (h : wpOp P l.toArray (only K0) i K a w) : wpOp P (l ++ [o]).toArray Q i K' a w := by
  unfold wpOp at *
  rw [ops_old hi]
  have hx : l.toArray[i]? = some l[i] := by simp [hi]
  rw [hx] at h ⊢
  simp only [] at h ⊢
  rw [wanted_old hl (List.getElem?_eq_getElem hi)]
  split
  · rename_i hw
    simp only [hw, if_true] at h
    rcases h with h | h
    · exact .inl (Oper.wp_mono hK (wp_none (wp_only h)))
    · exact (lets_only _ h.2).elim
  · rename_i hw
    simp only [hw] at h
    exact hK _ _ h
theorem any_end {l : List Oper} {o : Oper} {Q : Exit → Act → World → Prop} (hl : LastOk l o) {f : Nat} {listed : Array Bool} {a : Act} {w : World} (hs : listed.size = l.length) (hr : Region.ready .any l.toArray listed = []) (h : does P (l ++ [o]).toArray l.length (fun a' w' => Q .normal a' w') a w) : wpAny P .any (l ++ [o]).toArray Q (f + 1) (listed.push false) a w := by
  have hall := ready_nil hl hs hr
  have hlen : (l ++ [o]).toArray.size = l.length + 1 := by simp
  have hnew : l.length ∈ Region.ready .any (l ++ [o]).toArray (listed.push false) := mem_ready.2 ⟨by rw [← hs]; simp [Array.getD], o, ops_new, fun e he hb => by
    have h1 := hl.less e he hb
    have h2 := hall e.on h1
    rw [getD_push (by omega)]
    have h3 : e.on < listed.size := by omega
    simpa [Array.getD, h3] using h2⟩
  refine ⟨fun h0 => (by rw [h0] at hnew; cases hnew), fun i hi => ?_⟩
  obtain ⟨hun, x, hx, _⟩ := mem_ready.1 hi
  have hilt : i < l.length + 1 := by rw [← hlen]; exact (Array.getElem?_eq_some_iff.1 hx).1
  obtain rfl : i = l.length := by
    by_cases e : i = l.length
    · exact e
    · rw [getD_push (by omega), hall i (by omega)] at hun
      cases hun
  have hdone : Region.ready .any (l ++ [o]).toArray ((listed.push false).setIfInBounds l.length true) = [] := by
    cases hc : Region.ready .any (l ++ [o]).toArray ((listed.push false).setIfInBounds l.length true) with
    | nil => rfl
    | cons j r =>
      exfalso
      have hj : j ∈ Region.ready .any (l ++ [o]).toArray ((listed.push false).setIfInBounds l.length true) := by rw [hc]; exact List.mem_cons_self
      obtain ⟨hun, x, hx, _⟩ := mem_ready.1 hj
      have hjlt : j < l.length + 1 := by rw [← hlen]; exact (Array.getElem?_eq_some_iff.1 hx).1
      by_cases e : j = l.length
      · subst e
        simp [Array.getD, hs] at hun
      · rw [getD_set_ne true (fun e' => e e'.symm), getD_push (by omega), hall j (by omega)] at hun
        cases hun
  refine does_wp (does_mono (fun a' w' hq => ?_) h)
  cases f with
  | zero => exact ⟨hdone, hq⟩
  | succ f => exact ⟨fun _ => hq, fun j hj => by rw [hdone] at hj; cases hj⟩
theorem any_last {l : List Oper} {o : Oper} {Q : Exit → Act → World → Prop} (hl : LastOk l o) : ∀ (f : Nat) (listed : Array Bool) (a : Act) (w : World), listed.size = l.length → Closed l listed →
    wpAny P .any l.toArray (only fun a w => does P (l ++ [o]).toArray l.length (fun a' w' => Q .normal a' w') a w) f listed a w → wpAny P .any (l ++ [o]).toArray Q (f + 1) (listed.push false) a w
  | 0, listed, a, w, hs, _, h => any_end hl hs h.1 h.2
  | f + 1, listed, a, w, hs, hcl, h => by
    cases hr : Region.ready .any l.toArray listed with
    | nil => exact any_end hl hs hr (h.1 hr)
    | cons i0 r0 =>
      have hm0 : i0 ∈ Region.ready .any l.toArray listed := by rw [hr]; exact List.mem_cons_self
      obtain ⟨hun0, x0, hx0, hall0⟩ := mem_ready.1 hm0
      have hi0 : i0 < l.length := by simpa using (Array.getElem?_eq_some_iff.1 hx0).1
      have hlen : (l ++ [o]).toArray.size = l.length + 1 := by simp
      have old : ∀ i, i ∈ Region.ready .any l.toArray listed → i ∈ Region.ready .any (l ++ [o]).toArray (listed.push false) := fun i hi => by
        obtain ⟨hun, x, hx, hall⟩ := mem_ready.1 hi
        have hil : i < l.length := by simpa using (Array.getElem?_eq_some_iff.1 hx).1
        refine mem_ready.2 ⟨by rw [getD_push (by omega)]; exact hun, x, by rw [ops_old hil]; exact hx, fun e he hb => ?_⟩
        have h1 := hl.back i x (by simpa using hx) e he hb
        rw [getD_push (by omega)]
        exact hall e he hb
      refine ⟨fun h0 => (by have := old i0 hm0; rw [h0] at this; cases this), fun i hi => ?_⟩
      obtain ⟨hun, x, hx, hall⟩ := mem_ready.1 hi
      have hilt : i < l.length + 1 := by rw [← hlen]; exact (Array.getElem?_eq_some_iff.1 hx).1
      have hne : i ≠ l.length := fun e => by
        subst e
        obtain rfl : o = x := Option.some.inj (ops_new.symm.trans hx)
        have h1 := all_come hl hcl (fun e he hb => by
          have h2 := hall e he hb
          have h4 := hl.less e he hb
          rwa [getD_push (by omega)] at h2) l.length i0 (by omega) hi0
        have h3 : i0 < listed.size := by omega
        simp [Array.getD, h3] at h1 hun0
        rw [hun0] at h1
        cases h1
      have hil : i < l.length := by omega
      have hmem : i ∈ Region.ready .any l.toArray listed := by
        rw [ops_old hil] at hx
        refine mem_ready.2 ⟨by rw [getD_push (by omega)] at hun; exact hun, x, hx, fun e he hb => ?_⟩
        have h1 := hl.back i x (by simpa using hx) e he hb
        have h2 := hall e he hb
        rwa [getD_push (by omega)] at h2
      have hset : (listed.push false).setIfInBounds i true = (listed.setIfInBounds i true).push false := by
        apply Array.ext_getElem?
        intro k
        rw [Array.getElem?_setIfInBounds, Array.getElem?_push, Array.getElem?_push, Array.getElem?_setIfInBounds]
        simp only [Array.size_setIfInBounds, Array.size_push]
        by_cases e : i = k
        · subst e
          simp [show i < listed.size by omega, show ¬ i = listed.size by omega, show i < listed.size + 1 by omega]
        · simp [e]
      rw [hset]
      exact op_old hl hil (fun a' w' hk => any_last hl f _ a' w' (by simpa using hs) (hcl.set (fun x hx e he hb => by obtain ⟨-, x', hx', hall'⟩ := mem_ready.1 hmem; obtain rfl : x = x' := Option.some.inj (hx.symm.trans (by simpa using hx')); exact hall' e he hb)) hk) (h.2 i hmem)
end
/-- The calm ones walked once, the others behind them: whatever order is picked. -/
theorem any_calm {P : Program} {Q : Exit → Act → World → Prop} {a : Act} {w : World} {l : List Oper} (Dom : World → Prop) (hdom : ∀ w1 w2 : World, Dom w1 → Below w1.heap.size w1 w2 → Dom w2) (h0 : Dom w) (s t : List Nat) (lq lt : List Oper) (D : List Tmp) (A : Act)
    (hq : s.map (fun i => l.toArray[i]?) = lq.map some) (ht : t.map (fun i => l.toArray[i]?) = lt.map some) (hB : calmB l s t lq D a.tmps.size = true)
    (hwalk : ∀ C : World → Prop, (∀ w', C w' → Dom w') → (∀ w1 w2, C w1 → Below w1.heap.size w1 w2 → C w2) → wpQuiet P l.toArray C (fun a' => a' = A) lq a)
    (htail : ∀ w', Below w.heap.size w w' → tailOk P l.toArray Dom (fun a' w' => Q .normal a' w') lt A w') : wpAny P .any l.toArray Q l.length (Array.replicate l.length false) a { w with drawn := w.drawn + 1 } := by
  simp only [calmB, Bool.and_eq_true, decide_eq_true_eq] at hB
  obtain ⟨⟨⟨⟨⟨⟨⟨b1, b2⟩, b3⟩, b4⟩, b5⟩, b6⟩, b7⟩, b8⟩ := hB
  have hc := calm_of_walk (P := P) (ops := l.toArray) (Dom := Dom) hdom ⟨w, h0⟩ lq a b5 hwalk
  obtain ⟨k1, k2, k3⟩ := calm_keeps lq a hc
  have k4 : ∀ k, k ∉ D → A.tmps[k]? = a.tmps[k]? := fun k hk => k3 k (fun o ho e => hk (by rw [← b6]; exact List.mem_filterMap.2 ⟨o, ho, e⟩))
  have hfa : fill D A a = A := fill_eq k1 k2 k4
  have hfA : fill D A A = A := fill_eq rfl rfl (fun _ _ => rfl)
  have hll : lq.length = s.length := by have := congrArg List.length hq; simpa using this.symm
  have hlt : (t.filterMap fun i => l.toArray[i]?) = lt := by
    have : (t.map (fun i => l.toArray[i]?)).filterMap (fun x => x) = (lt.map some).filterMap (fun x => x) := by rw [ht]
    simpa [List.filterMap_map, Function.comp_def] using this
  have hin : InvOf P l.toArray Dom (fun a' w' => Q .normal a' w') D A t (Array.replicate l.length false) a { w with drawn := w.drawn + 1 } := by
    refine ⟨hdom _ _ h0 ((Below.refl _ _).drew), ?_⟩
    rw [b4, hfa, hlt]
    exact htail _ ((Below.refl _ _).drew)
  have htl := anyI_tail (P := P) (md := .any) (ops := l.toArray) (Dom := Dom) (Q := fun a' w' => Q .normal a' w') (A := A) t _ A b3 hfA
  have hall := anyI_calm (P := P) (md := .any) (Dom := Dom) (D := D) b1 (fun _ _ _ h => h.1) (fun _ _ _ _ h hb => ⟨hdom _ _ h.1 hb, tail_below h.2 hb⟩) (fun i o hi hd v listed a w => by
    obtain ⟨d, e1, e2⟩ := hd
    unfold InvOf
    have hit : i ∉ t := fun h => by
      have := seq_no b3 i h o hi d e1
      exact this e2
    rw [yet_set hit, e1, fill_put e2]) lq s (Array.replicate l.length false) a hq (fun o ho => by have := slots_dst b5 o ho; rw [b6] at this; exact this) b2 hc htl
  have := any_of_anyI (Q' := Q) (fun _ _ h => h) _ _ _ _ hin hall
  rw [hll, b8] at this
  simpa using this
/-- The same, the calm ones told by a mask. -/
theorem any_of_mask {P : Program} {Q : Exit → Act → World → Prop} {a : Act} {w : World} {l : List Oper} (Dom : World → Prop) (hdom : ∀ w1 w2 : World, Dom w1 → Below w1.heap.size w1 w2 → Dom w2) (h0 : Dom w) (m : List Bool) (A : Act)
    (hB : (calmB l (onI m 0) (offI l.length m 0) (onB m l) ((onB m l).filterMap (·.dst)) a.tmps.size && decide (m.length ≤ l.length)) = true)
    (hwalk : ∀ C : World → Prop, (∀ w', C w' → Dom w') → (∀ w1 w2, C w1 → Below w1.heap.size w1 w2 → C w2) → wpQuiet P l.toArray C (fun a' => a' = A) (onB m l) a)
    (htail : ∀ w', Below w.heap.size w w' → tailOk P l.toArray Dom (fun a' w' => Q .normal a' w') (offB m l) A w') : wpAny P .any l.toArray Q l.length (Array.replicate l.length false) a { w with drawn := w.drawn + 1 } := by
  simp only [Bool.and_eq_true, decide_eq_true_eq] at hB
  have h1 := on_eq m l [] hB.2
  have h2 := off_eq m l [] hB.2
  simp only [List.length_nil, List.nil_append, Nat.zero_add] at h1 h2
  exact any_calm Dom hdom h0 _ _ _ _ _ A h1 h2 hB.1 hwalk htail
theorem only_mono {P : Program} {ops : Array Oper} {K K' : Act → World → Prop} {o : Oper} {a : Act} {w : World} (h : ∀ a w, K a w → K' a w) (hh : wpList P ops (only K) [o] a w) : wpList P ops (only K') [o] a w := by
  unfold wpList at *
  split
  · rename_i hw
    simp only [hw, if_true] at hh
    rcases hh with hh | hh
    · exact .inl (Oper.wp_mono (fun a w hk => h _ _ hk) (wp_none (wp_only hh)))
    · exact (lets_only _ hh.2).elim
  · rename_i hw
    simp only [hw] at hh
    exact h _ _ hh
theorem tail_mono {P : Program} {ops : Array Oper} {Dom : World → Prop} {Q Q' : Act → World → Prop} (h : ∀ a w, Q a w → Q' a w) : ∀ {r : List Oper} {a : Act} {w : World}, tailOk P ops Dom Q r a w → tailOk P ops Dom Q' r a w
  | [], a, w, hh => fun w' hb => h _ _ (hh w' hb)
  | o :: r, a, w, hh => fun w' hb => only_mono (fun a' w'' hk => ⟨hk.1, tail_mono h hk.2⟩) (hh w' hb)
/-- The calm ones (by a mask) and the others in their order, then the last one, which may turn what was there. -/
theorem wp_region_mask_last {P : Program} {id : Nat} {Q : Exit → Act → World → Prop} {a : Act} {w : World} {l : List Oper} {o : Oper} (w0 : World) (h0 : Below w0.heap.size w0 w) (m : List Bool) (A : Act) (hm : P.follows .mixedOrders = true) (hlast : lastB l o = true)
    (hB : (calmB l (onI m 0) (offI l.length m 0) (onB m l) ((onB m l).filterMap (·.dst)) a.tmps.size && decide (m.length ≤ l.length)) = true)
    (hwalk : ∀ C : World → Prop, (∀ w', C w' → Below w0.heap.size w0 w') → (∀ w1 w2, C w1 → Below w1.heap.size w1 w2 → C w2) → wpQuiet P l.toArray C (fun a' => a' = A) (onB m l) a)
    (htail : ∀ w', Below w.heap.size w w' → tailOk P l.toArray (fun w' => Below w0.heap.size w0 w') (fun a' w' => wpList P (l ++ [o]).toArray (only fun a'' w'' => Q .normal a'' w'') [o] a' w') (offB m l) A w') : (Code.region id (l ++ [o]).toArray true).wp P Q a w := by
  have key := any_of_mask (P := P) (Q := only fun a w => does P (l ++ [o]).toArray l.length (fun a' w' => Q .normal a' w') a w) (fun w' => Below w0.heap.size w0 w') (base_dom w0) h0 m A hB hwalk (fun w' hb => tail_mono (fun a' w'' hh => does_of_list ops_new hh) (htail w' hb))
  refine wp_region_any hm ?_
  have h2 := any_last (last_ok hlast) _ _ _ _ (by simp) (fun j x _ hj => by simp [Array.getD] at hj) key
  have e : (l ++ [o]).toArray.size = l.length + 1 := by simp
  rw [e]
  have e2 : Array.replicate (l.length + 1) false = (Array.replicate l.length false).push false := by rw [Array.replicate_succ]
  rw [e2]
  exact h2
theorem wp_region_then {P : Program} {id : Nat} {Q : Exit → Act → World → Prop} {a : Act} {w : World} {l : List Oper} (hne : l ≠ []) (w0 : World) (h0 : Below w0.heap.size w0 w) (m : List Bool) (A : Act) (hm : P.follows .mixedOrders = true) (hlast : lastB l.dropLast (l.getLast hne) = true)
    (hB : (calmB l.dropLast (onI m 0) (offI l.dropLast.length m 0) (onB m l.dropLast) ((onB m l.dropLast).filterMap (·.dst)) a.tmps.size && decide (m.length ≤ l.dropLast.length)) = true)
    (hwalk : ∀ C : World → Prop, (∀ w', C w' → Below w0.heap.size w0 w') → (∀ w1 w2, C w1 → Below w1.heap.size w1 w2 → C w2) → wpQuiet P l.dropLast.toArray C (fun a' => a' = A) (onB m l.dropLast) a)
    (htail : ∀ w', Below w.heap.size w w' → tailOk P l.dropLast.toArray (fun w' => Below w0.heap.size w0 w') (fun a' w' => wpList P l.toArray (only fun a'' w'' => Q .normal a'' w'') [l.getLast hne] a' w') (offB m l.dropLast) A w') : (Code.region id l.toArray true).wp P Q a w := by
  have e := List.dropLast_concat_getLast hne
  have := wp_region_mask_last (Q := Q) (id := id) (l := l.dropLast) (o := l.getLast hne) w0 h0 m A hm hlast hB hwalk (by rw [e]; exact htail)
  rw [e] at this
  exact this
end Go.Proofs.Ytpejcblmglbjfaa.quiets
