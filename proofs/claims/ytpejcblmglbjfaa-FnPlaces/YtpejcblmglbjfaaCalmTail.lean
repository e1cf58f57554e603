/-
  A region that draws its order: some of its operations are calm (each yields one value in every world in which nothing that was there has turned, and turns nothing that is there), the others (a new block, a store into it) come one behind the other, at whatever time among the calm ones: the calm ones walked once, then the others, each from any world that the calm ones may have left.
-/
import Derived.Test.YtpejcblmglbjfaaQuietTail
namespace Go.Proofs.Ytpejcblmglbjfaa.quiets
open Go.RowKit
set_option linter.unusedVariables false
section
variable {P : Program} {ops : Array Oper} {md : Region.Mode} {Dom : World → Prop}
/-- No end but the normal one. -/
def none3 : Exit → Act → World → Prop := fun _ _ _ => False
def only (K : Act → World → Prop) : Exit → Act → World → Prop := fun x a w => match x with | .normal => K a w | _ => False
theorem lets_none : ¬ LetsOut none3 := fun ⟨_, _, h⟩ => h
theorem lets_only (K : Act → World → Prop) : ¬ LetsOut (only K) := fun ⟨_, _, h⟩ => h
theorem wp_none {o : Oper} {a : Act} {w : World} {K : Act → World → Prop} {Q : Exit → Act → World → Prop} (h : o.wp P a w K none3) : o.wp P a w K Q := by
  unfold Oper.wp at *
  generalize (execOp a.eval o).run P w = r at *
  cases r with
  | ok n w' =>
    cases n <;> simp only [Oper.upon] at h ⊢ <;> try exact h
    case enter f args =>
      refine Calls.mono h fun e w'' he => ?_
      cases e with
      | returned u => exact he
      | panicked c => exact he.elim
      | outgrown => exact (lets_none he).elim
  | halt x w' =>
    cases x <;> simp only [Oper.upon] at h ⊢
    case panic u => exact h.elim
theorem wp_only {o : Oper} {a : Act} {w : World} {K K' : Act → World → Prop} (h : o.wp P a w K (only K')) : o.wp P a w K none3 := by
  unfold Oper.wp at *
  generalize (execOp a.eval o).run P w = r at *
  cases r with
  | ok n w' =>
    cases n <;> simp only [Oper.upon] at h ⊢ <;> try exact h
  | halt x w' =>
    cases x <;> simp only [Oper.upon] at h ⊢
    case panic u => exact h.elim
/-- Operation number i does this, and ends in no other way. -/
def does (P : Program) (ops : Array Oper) (i : Nat) (K : Act → World → Prop) (a : Act) (w : World) : Prop :=
  match ops[i]? with
  | none => K a w
  | some o => if Region.wanted o (yielded ops a.tmps) then o.wp P a w K none3 else K (a.put o.dst undef) w
theorem does_wp {i : Nat} {a : Act} {w : World} {K : Act → World → Prop} {Q : Exit → Act → World → Prop} (h : does P ops i K a w) : wpOp P ops Q i K a w := by
  unfold does at h
  unfold wpOp
  split
  · rename_i ho; simp only [ho] at h; exact h
  · rename_i o ho
    simp only [ho] at h
    split
    · rename_i hw; simp only [hw, if_true] at h; exact .inl (wp_none h)
    · rename_i hw; simp only [hw] at h; exact h
theorem does_mono {i : Nat} {a : Act} {w : World} {K K' : Act → World → Prop} (h : ∀ a w, K a w → K' a w) (hh : does P ops i K a w) : does P ops i K' a w := by
  unfold does at *
  split
  · rename_i ho; simp only [ho] at hh; exact h _ _ hh
  · rename_i o ho
    simp only [ho] at hh
    split
    · rename_i hw; simp only [hw, if_true] at hh; exact Oper.wp_mono h hh
    · rename_i hw; simp only [hw] at hh; exact h _ _ hh
theorem does_of_list {i : Nat} {o : Oper} {a : Act} {w : World} {K : Act → World → Prop} (hi : ops[i]? = some o) (h : wpList P ops (only K) [o] a w) : does P ops i K a w := by
  unfold does
  simp only [hi]
  unfold wpList at h
  split
  · rename_i hw
    simp only [hw, if_true] at h
    rcases h with h | h
    · exact Oper.wp_mono (fun a w hh => hh) (wp_only h)
    · exact (lets_only _ h.2).elim
  · rename_i hw
    simp only [hw] at h
    exact h
/-! ### Calm operations -/
def Oper.calmUpon (P : Program) (w : World) (v : Value) : Result Next → Prop
  | .ok (.value u) w' => w' = w ∧ u = v
  | .ok .skip w' => w' = w ∧ v = undef
  | .ok (.enter f args) w' => w' = w ∧ Calls P f args w (fun e w'' => e = .returned v ∧ Below w.heap.size w w'')
  | _ => False
def calmAt (P : Program) (o : Oper) (a : Act) (w : World) (v : Value) : Prop := Oper.calmUpon P w v ((execOp a.eval o).run P w)
def CalmIn (P : Program) (ops : Array Oper) (Dom : World → Prop) (o : Oper) (v : Value) (a : Act) : Prop :=
  (Region.wanted o (yielded ops a.tmps) = true ∧ ∀ w, Dom w → calmAt P o a w v) ∨ (Region.wanted o (yielded ops a.tmps) = false ∧ v = undef)
theorem CalmIn.of_same {o : Oper} {v : Value} {a a' : Act} (hy : CalmIn P ops Dom o v a) (he : execOp a'.eval o = execOp a.eval o) (hw : Region.wanted o (yielded ops a'.tmps) = Region.wanted o (yielded ops a.tmps)) : CalmIn P ops Dom o v a' := by
  unfold CalmIn calmAt at *
  rw [he, hw]
  exact hy
theorem calm_wp {o : Oper} {a : Act} {w : World} {v : Value} {K : Act → World → Prop} (h : calmAt P o a w v) (hK : ∀ w', Below w.heap.size w w' → K (a.put o.dst v) w') : o.wp P a w K none3 := by
  unfold calmAt at h
  unfold Oper.wp
  generalize (execOp a.eval o).run P w = r at *
  cases r with
  | ok n w' =>
    cases n <;> simp only [Oper.calmUpon] at h <;> simp only [Oper.upon]
    case value u =>
      obtain ⟨e1, e2⟩ := h
      rw [e1, e2]
      exact hK _ (Below.refl _ _)
    case skip =>
      obtain ⟨e1, e2⟩ := h
      rw [e1, ← e2]
      exact hK _ (Below.refl _ _)
    case enter f args =>
      obtain ⟨e1, hc⟩ := h
      rw [e1]
      exact hc.mono fun e w'' ⟨he, hw''⟩ => by subst he; exact hK _ hw''
  | halt x w' => simp only [Oper.calmUpon] at h
theorem calm_does {i : Nat} {o : Oper} {a : Act} {w : World} {v : Value} {K : Act → World → Prop} (hi : ops[i]? = some o) (h : CalmIn P ops Dom o v a) (hw : Dom w) (hK : ∀ w', Below w.heap.size w w' → K (a.put o.dst v) w') : does P ops i K a w := by
  unfold does
  simp only [hi]
  rcases h with ⟨h1, h2⟩ | ⟨h1, rfl⟩
  · rw [if_pos h1]; exact calm_wp (h2 w hw) hK
  · rw [if_neg (by rw [h1]; decide)]; exact hK w (Below.refl _ _)
/-- Whatever order is picked from here on, from any world that Inv knows. -/
def anyI (P : Program) (md : Region.Mode) (ops : Array Oper) (Q : Act → World → Prop) (Inv : Array Bool → Act → World → Prop) : Nat → Array Bool → Act → Prop
  | 0, listed, a => Region.ready md ops listed = [] ∧ ∀ w, Inv listed a w → Q a w
  | f + 1, listed, a => (Region.ready md ops listed = [] → ∀ w, Inv listed a w → Q a w) ∧
    ∀ i ∈ Region.ready md ops listed, ∀ w, Inv listed a w → does P ops i (fun a' w' => Inv (listed.setIfInBounds i true) a' w' ∧ anyI P md ops Q Inv f (listed.setIfInBounds i true) a') a w
theorem any_of_anyI {Q : Act → World → Prop} {Q' : Exit → Act → World → Prop} {Inv : Array Bool → Act → World → Prop} (hQ : ∀ a w, Q a w → Q' .normal a w) : ∀ (f : Nat) (listed : Array Bool) (a : Act) (w : World), Inv listed a w → anyI P md ops Q Inv f listed a → wpAny P md ops Q' f listed a w
  | 0, listed, a, w, hw, h => ⟨h.1, hQ _ _ (h.2 w hw)⟩
  | f + 1, listed, a, w, hw, h => ⟨fun h0 => hQ _ _ (h.1 h0 w hw), fun i hi => does_wp (does_mono (fun a' w' ⟨h1, h2⟩ => any_of_anyI hQ f _ a' w' h1 h2) (h.2 i hi w hw))⟩
/-- An operation j, apart from the calm one i: whether i's value is in its slot already makes no difference. -/
theorem does_put {j : Nat} {oi oj : Oper} {v : Value} (hj : ops[j]? = some oj) (hap : oi.apart ops oj = true) (hsi : ∀ cs b, oi.op ≠ .select cs b) (hsj : ∀ cs b, oj.op ≠ .select cs b) {K : Act → World → Prop} {a : Act} {w : World}
    (hy : CalmIn P ops Dom oi v a) (h : does P ops j K (a.put oi.dst v) w) : does P ops j (fun a' w' => CalmIn P ops Dom oi v a' ∧ K (a'.put oi.dst v) w') a w := by
  obtain ⟨h1, h2, h3⟩ := Oper.apart_spec hap
  have keep : ∀ (a : Act), CalmIn P ops Dom oi v a → ∀ u, CalmIn P ops Dom oi v (a.put oj.dst u) := fun a hy u => hy.of_same (execOp_put oi hsi a oj.dst u h3) (wanted_put oi a oj.dst u h3)
  have keepD : ∀ d, CalmIn P ops Dom oi v { a with defers := d :: a.defers } := fun d => hy.of_same rfl rfl
  unfold does at *
  simp only [hj] at *
  rw [wanted_put oj a oi.dst v h1] at h
  split
  · rename_i hw
    simp only [hw, if_true] at h
    unfold Oper.wp at *
    rw [execOp_put oj hsj a oi.dst v h1] at h
    generalize (execOp a.eval oj).run P w = r at *
    cases r with
    | ok n w' =>
      cases n <;> simp only [Oper.upon] at h ⊢
      case value u => exact ⟨keep a hy u, by rw [← Act.put_comm a v u h2]; exact h⟩
      case skip => exact ⟨keep a hy _, by rw [← Act.put_comm a v undef h2]; exact h⟩
      case defer d =>
        refine ⟨keep _ (keepD d) _, ?_⟩
        rw [← Act.put_comm _ v undef h2, ← Act.put_defers]
        exact h
      case enter f args =>
        refine Calls.mono h fun e w'' he => ?_
        cases e with
        | returned u => exact ⟨keep a hy u, by rw [← Act.put_comm a v u h2]; exact he⟩
        | panicked c => exact he
        | outgrown => exact he
      case row row args => exact Rows.mono h fun u w'' he => ⟨keep a hy u, by rw [← Act.put_comm a v u h2]; exact he⟩
    | halt x w' =>
      cases x <;> simp only [Oper.upon] at h ⊢
      case panic u => exact h
  · rename_i hw
    simp only [hw] at h
    exact ⟨keep a hy _, by rw [← Act.put_comm a v undef h2]; exact h⟩
theorem anyI_first {Q : Act → World → Prop} {Inv : Array Bool → Act → World → Prop} {i : Nat} {oi : Oper} {v : Value} (hi : ops[i]? = some oi) (hsel : ∀ (j : Nat) (o : Oper) cs b, ops[j]? = some o → o.op ≠ .select cs b)
    (hD : ∀ listed a w, Inv listed a w → Dom w) (hB : ∀ listed a w w', Inv listed a w → Below w.heap.size w w' → Inv (listed.setIfInBounds i true) (a.put oi.dst v) w') (hP : ∀ listed a w, Inv listed a w → Inv (listed.setIfInBounds i true) (a.put oi.dst v) w) (hP' : ∀ listed a w, Inv (listed.setIfInBounds i true) (a.put oi.dst v) w → Inv listed a w) :
    ∀ (f : Nat) (listed : Array Bool) (a : Act),
      (∀ j oj, ops[j]? = some oj → j ≠ i → listed.getD j true = false → (∀ e ∈ oj.after, Region.binds md e = true → e.on ≠ i) → oi.apart ops oj = true) →
      i ∈ Region.ready md ops listed → CalmIn P ops Dom oi v a → anyI P md ops Q Inv f (listed.setIfInBounds i true) (a.put oi.dst v) → anyI P md ops Q Inv (f + 1) listed a := by
  intro f
  induction f with
  | zero =>
    intro listed a _ hr hy H
    refine ⟨fun h => (by rw [h] at hr; cases hr), fun j hj w hw => ?_⟩
    by_cases hji : j = i
    · subst hji; exact calm_does hi hy (hD _ _ _ hw) fun w' hb => ⟨hB _ _ _ _ hw hb, H⟩
    · have := ready_mono hj hji
      rw [H.1] at this
      cases this
  | succ f ih =>
    intro listed a hfree hr hy H
    refine ⟨fun h => (by rw [h] at hr; cases hr), fun j hj w hw => ?_⟩
    by_cases hji : j = i
    · subst hji; exact calm_does hi hy (hD _ _ _ hw) fun w' hb => ⟨hB _ _ _ _ hw hb, H⟩
    · have h1 := H.2 j (ready_mono hj hji) w (hP _ _ _ hw)
      obtain ⟨hjun, oj, hoj, hall⟩ := mem_ready.1 hj
      have hnot : ∀ e ∈ oj.after, Region.binds md e = true → e.on ≠ i := fun e he hb heq => by
        have h1 := hall e he hb
        have h0 := (mem_ready.1 hr).1
        rw [heq] at h1
        rcases Nat.lt_or_ge i listed.size with h' | h'
        · simp [h'] at h0 h1; rw [h0] at h1; cases h1
        · simp [Array.getElem?_eq_none h'] at h1
      have h2 := does_put hoj (hfree j oj hoj hji hjun hnot) (fun cs b => hsel i oi cs b hi) (fun cs b => hsel j oj cs b hoj) hy h1
      have hfree' : ∀ k ok, ops[k]? = some ok → k ≠ i → (listed.setIfInBounds j true).getD k true = false →
          (∀ e ∈ ok.after, Region.binds md e = true → e.on ≠ i) → oi.apart ops ok = true := fun k ok hk hki hun hno => by
        refine hfree k ok hk hki ?_ hno
        by_cases hjk : j = k
        · subst hjk; exact hjun
        · rw [getD_set_ne true hjk] at hun; exact hun
      refine does_mono (fun a' w' ⟨h3, h4, h5⟩ => ?_) h2
      rw [Array.setIfInBounds_comm _ _ (Ne.symm hji)] at h4 h5
      exact ⟨hP' _ _ _ h4, ih (listed.setIfInBounds j true) a' hfree' (ready_mono hr (Ne.symm hji)) h3 h5⟩
/-! ### The walk of the calm ones -/
def wpCalm (P : Program) (ops : Array Oper) (Dom : World → Prop) (Q : Act → Prop) : List Oper → Act → Prop
  | [], a => Q a
  | o :: rest, a => ∃ v, CalmIn P ops Dom o v a ∧ wpCalm P ops Dom Q rest (a.put o.dst v)
/-- Each has a slot of its own. -/
def ownSlots (n : Nat) : List Oper → Bool
  | [] => true
  | o :: rest => (match o.dst with | some d => decide (d < n) && rest.all (fun o' => o'.dst != some d) | none => false) && ownSlots n rest
theorem put_size (a : Act) (d : Option Tmp) (v : Value) : (a.put d v).tmps.size = a.tmps.size := by cases d <;> simp [Act.put]
theorem put_self {a : Act} {d : Tmp} {v : Value} (h : d < a.tmps.size) : (a.put (some d) v).tmps.getD d undef = v := by simp [Act.put, h]
theorem put_other {a : Act} {d : Tmp} {x : Option Tmp} {v : Value} (h : x ≠ some d) : (a.put x v).tmps.getD d undef = a.tmps.getD d undef := by
  cases x with
  | none => rfl
  | some y => have : y ≠ d := fun e => h (by rw [e]); simp [Act.put, Array.getElem?_setIfInBounds_ne this]
theorem walk_keeps {C : World → Prop} {A : Act} {d : Tmp} : ∀ (l : List Oper) (a : Act), l.all (fun o' => o'.dst != some d) = true → wpQuiet P ops C (fun a' => a' = A) l a → A.tmps.getD d undef = a.tmps.getD d undef
  | [], a, _, h => by have h' : a = A := h; rw [h']
  | o :: rest, a, hd, h => by
    simp only [List.all_cons, Bool.and_eq_true, bne_iff_ne, ne_eq] at hd
    unfold wpQuiet at h
    split at h
    · obtain ⟨v, _, h2⟩ := h
      rw [walk_keeps rest _ hd.2 h2, put_other hd.1]
    · rw [walk_keeps rest _ hd.2 h, put_other hd.1]
theorem calm_of_walk {A : Act} (hDom : ∀ w w', Dom w → Below w.heap.size w w' → Dom w') (hne : ∃ w, Dom w) : ∀ (l : List Oper) (a : Act), ownSlots a.tmps.size l = true →
    (∀ C : World → Prop, (∀ w, C w → Dom w) → (∀ w w', C w → Below w.heap.size w w' → C w') → wpQuiet P ops C (fun a' => a' = A) l a) → wpCalm P ops Dom (fun a' => a' = A) l a
  | [], a, _, h => h Dom (fun _ h => h) hDom
  | o :: rest, a, hs, h => by
    simp only [ownSlots, Bool.and_eq_true] at hs
    obtain ⟨hs1, hs2⟩ := hs
    cases hd : o.dst with
    | none => rw [hd] at hs1; cases hs1
    | some d =>
      rw [hd] at hs1
      simp only [Bool.and_eq_true, decide_eq_true_eq] at hs1
      obtain ⟨hlt, hrest⟩ := hs1
      by_cases hw : Region.wanted o (yielded ops a.tmps) = true
      · have each : ∀ C : World → Prop, (∀ w, C w → Dom w) → (∀ w w', C w → Below w.heap.size w w' → C w') → (∀ w, C w → o.quietAt P a C w (A.tmps.getD d undef)) ∧ wpQuiet P ops C (fun a' => a' = A) rest (a.put o.dst (A.tmps.getD d undef)) := fun C h1 h2 => by
          have := h C h1 h2
          unfold wpQuiet at this
          rw [if_pos hw] at this
          obtain ⟨v, e1, e2⟩ := this
          have e3 := walk_keeps rest _ hrest e2
          rw [hd, put_self hlt] at e3
          subst e3
          exact ⟨e1, e2⟩
        refine ⟨A.tmps.getD d undef, .inl ⟨hw, fun w hDw => ?_⟩, ?_⟩
        · have := (each (fun w'' => Below w.heap.size w w'') (fun w'' hb => hDom w w'' hDw hb) (fun w1 w2 h1 h2 => h1.trans (h2.mono h1.size))).1 w (Below.refl _ _)
          unfold Oper.quietAt Oper.quietUpon at this
          unfold calmAt Oper.calmUpon
          exact this
        · exact calm_of_walk hDom hne rest _ (by rw [put_size]; exact hs2) (fun C h1 h2 => (each C h1 h2).2)
      · have each : ∀ C : World → Prop, (∀ w, C w → Dom w) → (∀ w w', C w → Below w.heap.size w w' → C w') → wpQuiet P ops C (fun a' => a' = A) rest (a.put o.dst undef) := fun C h1 h2 => by
          have := h C h1 h2
          unfold wpQuiet at this
          rwa [if_neg hw] at this
        exact ⟨undef, .inr ⟨by simpa using hw, rfl⟩, calm_of_walk hDom hne rest _ (by rw [put_size]; exact hs2) each⟩
/-! ### The order -/
def orderB (md : Region.Mode) (ops : Array Oper) : List Nat → Array Bool → Bool
  | [], _ => true
  | i :: s, listed => (Region.ready md ops listed).contains i && Region.free md ops listed i && orderB md ops s (listed.setIfInBounds i true)
def listAll (s : List Nat) (listed : Array Bool) : Array Bool := s.foldl (fun l i => l.setIfInBounds i true) listed
theorem anyI_calm {Q : Act → World → Prop} {Inv : Array Bool → Act → World → Prop} {D : List Tmp} {A : Act} {g : Nat} (hsel : Region.noSelect ops = true)
    (hD : ∀ listed a w, Inv listed a w → Dom w)
    (hB : ∀ listed a w w', Inv listed a w → Below w.heap.size w w' → Inv listed a w')
    (hI : ∀ i o, ops[i]? = some o → (∃ d, o.dst = some d ∧ d ∈ D) → ∀ v listed a w, Inv (listed.setIfInBounds i true) (a.put o.dst v) w ↔ Inv listed a w) :
    ∀ (l : List Oper) (s : List Nat) (listed : Array Bool) (a : Act), s.map (fun i => ops[i]?) = l.map some → (∀ o ∈ l, ∃ d, o.dst = some d ∧ d ∈ D) → orderB md ops s listed = true →
      wpCalm P ops Dom (fun a' => a' = A) l a → anyI P md ops Q Inv g (listAll s listed) A → anyI P md ops Q Inv (l.length + g) listed a
  | [], [], listed, a, _, _, _, h, H => by
    have h' : a = A := h
    rw [h', List.length_nil, Nat.zero_add]; exact H
  | [], i :: s, listed, a, hm, _, _, _, _ => by cases hm
  | o :: l, [], listed, a, hm, _, _, _, _ => by cases hm
  | o :: l, i :: s, listed, a, hm, hd, hB', h, H => by
    simp only [List.map_cons, List.cons.injEq] at hm
    obtain ⟨v, hc, h'⟩ := h
    simp only [orderB, Bool.and_eq_true] at hB'
    obtain ⟨⟨hr, hf⟩, ho⟩ := hB'
    have hdd := hd o List.mem_cons_self
    have key := fun listed a w => hI i o hm.1 hdd v listed a w
    rw [show (o :: l).length + g = (l.length + g) + 1 by rw [List.length_cons]; omega]
    refine anyI_first (Dom := Dom) hm.1 (Region.noSelect_spec hsel) hD (fun listed a w w' hi hb => (key _ _ _).2 (hB _ _ _ _ hi hb)) (fun listed a w hi => (key _ _ _).2 hi) (fun listed a w hi => (key _ _ _).1 hi) (l.length + g) listed a (Region.free_spec hm.1 hf) (by simpa using hr) hc ?_
    exact anyI_calm hsel hD hB hI l s _ _ hm.2 (fun o ho => hd o (List.mem_cons_of_mem _ ho)) ho h' H
/-! ### The others -/
/-- The others, one behind the other, each from any world that the calm ones may have left. -/
def tailOk (P : Program) (ops : Array Oper) (Dom : World → Prop) (Q : Act → World → Prop) : List Oper → Act → World → Prop
  | [], a, w => ∀ w', Below w.heap.size w w' → Q a w'
  | o :: r, a, w => ∀ w', Below w.heap.size w w' → wpList P ops (only fun a' w'' => Dom w'' ∧ tailOk P ops Dom Q r a' w'') [o] a w'
theorem tail_below {Q : Act → World → Prop} {r : List Oper} {a : Act} {w w' : World} (h : tailOk P ops Dom Q r a w) (hb : Below w.heap.size w w') : tailOk P ops Dom Q r a w' := by
  cases r with
  | nil => exact fun w2 h2 => h w2 (hb.trans (h2.mono hb.size))
  | cons o r => exact fun w2 h2 => h w2 (hb.trans (h2.mono hb.size))
def fill (D : List Tmp) (A a : Act) : Act := { a with tmps := a.tmps.mapIdx fun k u => if k ∈ D then A.tmps.getD k undef else u }
theorem act_ext {a b : Act} (h : a.tmps = b.tmps) (h' : a.defers = b.defers) : a = b := by cases a; cases b; simp_all
theorem fill_put {D : List Tmp} {A a : Act} {d : Tmp} {v : Value} (hd : d ∈ D) : fill D A (a.put (some d) v) = fill D A a := by
  refine act_ext ?_ rfl
  apply Array.ext
  · simp [fill, Act.put]
  · intro i h1 h2
    simp only [fill, Act.put, Array.getElem_mapIdx]
    by_cases e : i = d
    · subst e; rw [if_pos hd, if_pos hd]
    · by_cases hi : i ∈ D
      · rw [if_pos hi, if_pos hi]
      · rw [if_neg hi, if_neg hi, Array.getElem_setIfInBounds_ne _ (Ne.symm e)]
theorem fill_keep {D : List Tmp} {A a : Act} {x : Option Tmp} {u : Value} (hf : fill D A a = a) (hx : ∀ d, x = some d → d ∉ D) (ds : List Deferred) : fill D A (({ a with defers := ds } : Act).put x u) = ({ a with defers := ds } : Act).put x u := by
  have ht : (fill D A a).tmps = a.tmps := by rw [hf]
  refine act_ext ?_ (by cases x <;> rfl)
  apply Array.ext
  · cases x <;> simp [fill, Act.put]
  · intro i h1 h2
    have hia : i < a.tmps.size := by cases x <;> simpa [Act.put] using h2
    have h3 : (if i ∈ D then A.tmps.getD i undef else a.tmps[i]) = a.tmps[i] := by
      have : (fill D A a).tmps[i]? = a.tmps[i]? := by rw [ht]
      simpa [fill, hia] using this
    cases x with
    | none => simpa [fill, Act.put] using h3
    | some d =>
      have hd := hx d rfl
      simp only [fill, Act.put, Array.getElem_mapIdx]
      by_cases e : i = d
      · subst e; rw [if_neg hd]
      · rw [Array.getElem_setIfInBounds_ne _ (Ne.symm e)]; exact h3
/-- What the calm ones leave alone. -/
theorem calm_keeps {A : Act} : ∀ (l : List Oper) (a : Act), wpCalm P ops Dom (fun a' => a' = A) l a → A.tmps.size = a.tmps.size ∧ A.defers = a.defers ∧ ∀ k, (∀ o ∈ l, o.dst ≠ some k) → A.tmps[k]? = a.tmps[k]?
  | [], a, h => by have h' : a = A := h; subst h'; exact ⟨rfl, rfl, fun _ _ => rfl⟩
  | o :: l, a, h => by
    obtain ⟨v, _, h'⟩ := h
    obtain ⟨h1, h2, h3⟩ := calm_keeps l _ h'
    refine ⟨h1.trans (put_size _ _ _), h2.trans (by cases o.dst <;> rfl), fun k hk => (h3 k (fun o' ho' => hk o' (List.mem_cons_of_mem _ ho'))).trans ?_⟩
    have := hk o List.mem_cons_self
    cases hd : o.dst with
    | none => rfl
    | some d => rw [hd] at this; have hne : d ≠ k := fun e => this (by rw [e]); simp [Act.put, Array.getElem?_setIfInBounds_ne hne]
theorem fill_eq {D : List Tmp} {A a : Act} (h1 : A.tmps.size = a.tmps.size) (h2 : A.defers = a.defers) (h3 : ∀ k, k ∉ D → A.tmps[k]? = a.tmps[k]?) : fill D A a = A := by
  refine act_ext ?_ h2.symm
  apply Array.ext
  · simp [fill, h1]
  · intro i hi1 hi2
    simp only [fill, Array.getElem_mapIdx]
    by_cases hi : i ∈ D
    · rw [if_pos hi]; simp [hi2]
    · rw [if_neg hi]
      have := h3 i hi
      rw [Array.getElem?_eq_getElem hi2, Array.getElem?_eq_getElem (by omega)] at this
      exact (Option.some.inj this).symm
theorem does_act {i : Nat} {o : Oper} {a : Act} {w : World} {K : Act → World → Prop} (hi : ops[i]? = some o) (h : does P ops i K a w) : does P ops i (fun a' w' => (∃ u ds, a' = ({ a with defers := ds } : Act).put o.dst u) ∧ K a' w') a w := by
  unfold does at *
  simp only [hi] at *
  split
  · rename_i hw
    simp only [hw, if_true] at h
    unfold Oper.wp at *
    generalize (execOp a.eval o).run P w = r at *
    cases r with
    | ok n w' =>
      cases n <;> simp only [Oper.upon] at h ⊢
      case value u => exact ⟨⟨u, a.defers, rfl⟩, h⟩
      case skip => exact ⟨⟨undef, a.defers, rfl⟩, h⟩
      case defer d => exact ⟨⟨undef, d :: a.defers, rfl⟩, h⟩
      case enter f args =>
        refine Calls.mono h fun e w'' he => ?_
        cases e with
        | returned u => exact ⟨⟨u, a.defers, rfl⟩, he⟩
        | panicked c => exact he
        | outgrown => exact he
      case row row args => exact Rows.mono h fun u w'' he => ⟨⟨u, a.defers, rfl⟩, he⟩
    | halt x w' =>
      cases x <;> simp only [Oper.upon] at h ⊢
      case panic u => exact h
  · rename_i hw
    simp only [hw] at h
    exact ⟨⟨undef, a.defers, rfl⟩, h⟩
/-- Those of t that have not come up yet. -/
def yet (t : List Nat) (listed : Array Bool) : List Nat := t.filter fun i => !listed.getD i false
def InvOf (P : Program) (ops : Array Oper) (Dom : World → Prop) (Q : Act → World → Prop) (D : List Tmp) (A : Act) (t : List Nat) (listed : Array Bool) (a : Act) (w : World) : Prop :=
  Dom w ∧ tailOk P ops Dom Q ((yet t listed).filterMap fun i => ops[i]?) (fill D A a) w
def seqIdx (md : Region.Mode) (ops : Array Oper) (t : List Nat) (D : List Tmp) : List Nat → Array Bool → Bool
  | [], listed => (Region.ready md ops listed).isEmpty && decide (yet t listed = [])
  | i :: r, listed => decide (Region.ready md ops listed = [i]) && decide (yet t listed = i :: r) && (match ops[i]? with | some o => (match o.dst with | some d => !D.contains d | none => true) | none => false) && seqIdx md ops t D r (listed.setIfInBounds i true)
theorem anyI_tail {Q : Act → World → Prop} {D : List Tmp} {A : Act} {t : List Nat} : ∀ (r : List Nat) (listed : Array Bool) (a : Act), seqIdx md ops t D r listed = true → fill D A a = a → anyI P md ops Q (InvOf P ops Dom Q D A t) r.length listed a
  | [], listed, a, hs, hf => by
    simp only [seqIdx, Bool.and_eq_true, List.isEmpty_iff, decide_eq_true_eq] at hs
    refine ⟨hs.1, fun w hw => ?_⟩
    have := hw.2
    rw [hs.2, hf] at this
    exact this w (Below.refl _ _)
  | i :: r, listed, a, hs, hf => by
    simp only [seqIdx, Bool.and_eq_true, decide_eq_true_eq] at hs
    obtain ⟨⟨⟨h1, h2⟩, h3⟩, h4⟩ := hs
    refine ⟨fun h0 => (by rw [h1] at h0; cases h0), fun j hj w hw => ?_⟩
    rw [h1] at hj
    obtain rfl : j = i := by simpa using hj
    cases ho : ops[j]? with
    | none => rw [ho] at h3; cases h3
    | some o =>
      rw [ho] at h3
      have hw2 := hw.2
      rw [h2, hf] at hw2
      simp only [List.filterMap_cons, ho] at hw2
      have := hw2 w (Below.refl _ _)
      refine does_mono (fun a' w' ⟨⟨u, ds, e⟩, hD, hT⟩ => ?_) (does_act ho (does_of_list ho this))
      have hfa : fill D A a' = a' := by
        rw [e]
        refine fill_keep hf (fun d hd hin => ?_) ds
        simp [hd] at h3
        exact h3 hin
      have hy : yet t (listed.setIfInBounds j true) = r := by
        cases r with
        | nil => simp only [seqIdx, Bool.and_eq_true, decide_eq_true_eq] at h4; exact h4.2
        | cons q r => simp only [seqIdx, Bool.and_eq_true, decide_eq_true_eq] at h4; exact h4.1.1.2
      exact ⟨⟨hD, by rw [hy, hfa]; exact hT⟩, anyI_tail r _ a' h4 hfa⟩
/-- What is reckoned of a region: the order of the calm ones (s), the others (t), and how many slots there are. -/
def calmB (l : List Oper) (s t : List Nat) (lq : List Oper) (D : List Tmp) (n : Nat) : Bool :=
  Region.noSelect l.toArray && orderB .any l.toArray s (Array.replicate l.length false) && seqIdx .any l.toArray t D t (listAll s (Array.replicate l.length false)) && decide (yet t (Array.replicate l.length false) = t) && ownSlots n lq && decide (lq.filterMap (·.dst) = D) && s.all (fun i => !t.contains i) && decide (s.length + t.length = l.length)
theorem seq_no {md : Region.Mode} {ops : Array Oper} {t0 : List Nat} {D : List Tmp} : ∀ {t : List Nat} {listed : Array Bool}, seqIdx md ops t0 D t listed = true → ∀ i ∈ t, ∀ o, ops[i]? = some o → ∀ d, o.dst = some d → d ∉ D
  | [], _, _, i, hi, _, _, _, _ => by cases hi
  | j :: t, listed, h, i, hi, o, ho, d, hd => by
    simp only [seqIdx, Bool.and_eq_true] at h
    rcases List.mem_cons.1 hi with rfl | hi
    · have := h.1.2
      rw [ho] at this
      simp only [hd] at this
      simpa using this
    · exact seq_no h.2 i hi o ho d hd
theorem yet_set {t : List Nat} {i : Nat} {listed : Array Bool} (h : i ∉ t) : yet t (listed.setIfInBounds i true) = yet t listed := by
  unfold yet
  refine List.filter_congr fun j hj => ?_
  rw [getD_set_ne false (fun e => h (by rw [e]; exact hj))]
theorem slots_dst {n : Nat} : ∀ {l : List Oper}, ownSlots n l = true → ∀ o ∈ l, ∃ d, o.dst = some d ∧ d ∈ l.filterMap (·.dst)
  | [], _, o, h => by cases h
  | o' :: l, hs, o, h => by
    simp only [ownSlots, Bool.and_eq_true] at hs
    rcases List.mem_cons.1 h with rfl | h
    · cases hd : o.dst with
      | none => simp [hd] at hs
      | some d => exact ⟨d, rfl, by simp [hd]⟩
    · obtain ⟨d, e1, e2⟩ := slots_dst hs.2 o h
      refine ⟨d, e1, ?_⟩
      cases hd : o'.dst with
      | none => simpa [hd] using e2
      | some d' => rw [List.filterMap_cons, hd]; exact List.mem_cons_of_mem _ e2
end
/-- The calm ones walked once, the others behind them. -/
theorem wp_region_calm {P : Program} {id : Nat} {Q : Exit → Act → World → Prop} {a : Act} {w : World} {l : List Oper} (Dom : World → Prop) (hdom : ∀ w1 w2 : World, Dom w1 → Below w1.heap.size w1 w2 → Dom w2) (h0 : Dom w) (s t : List Nat) (lq lt : List Oper) (D : List Tmp) (A : Act) (hm : P.follows .mixedOrders = true)
    (hq : s.map (fun i => l.toArray[i]?) = lq.map some) (ht : t.map (fun i => l.toArray[i]?) = lt.map some) (hB : calmB l s t lq D a.tmps.size = true)
    (hwalk : ∀ C : World → Prop, (∀ w', C w' → Dom w') → (∀ w1 w2, C w1 → Below w1.heap.size w1 w2 → C w2) → wpQuiet P l.toArray C (fun a' => a' = A) lq a)
    (htail : ∀ w', Below w.heap.size w w' → tailOk P l.toArray Dom (fun a' w' => Q .normal a' w') lt A w') : (Code.region id l.toArray true).wp P Q a w := by
  simp only [calmB, Bool.and_eq_true, decide_eq_true_eq] at hB
  obtain ⟨⟨⟨⟨⟨⟨⟨b1, b2⟩, b3⟩, b4⟩, b5⟩, b6⟩, b7⟩, b8⟩ := hB
  have hc := calm_of_walk (P := P) (ops := l.toArray) (Dom := Dom) hdom ⟨w, h0⟩ lq a b5 hwalk
  obtain ⟨k1, k2, k3⟩ := calm_keeps lq a hc
  have k4 : ∀ k, k ∉ D → A.tmps[k]? = a.tmps[k]? := fun k hk => k3 k (fun o ho e => hk (by rw [← b6]; exact List.mem_filterMap.2 ⟨o, ho, e⟩))
  have hfa : fill D A a = A := fill_eq k1 k2 k4
  have hfA : fill D A A = A := fill_eq rfl rfl (fun _ _ => rfl)
  have hll : lq.length = s.length := by have := congrArg List.length hq; simpa using this.symm
  have hlt : (t.filterMap fun i => l.toArray[i]?) = lt := by
    have : (t.map (fun i => l.toArray[i]?)).filterMap (fun x => x) = (lt.map some).filterMap (fun x => x) := by rw [ht]
    simpa [List.filterMap_map, Function.comp_def] using this
  have hin : InvOf P l.toArray Dom (fun a' w' => Q .normal a' w') D A t (Array.replicate l.length false) a { w with drawn := w.drawn + 1 } := by
    refine ⟨hdom _ _ h0 ((Below.refl _ _).drew), ?_⟩
    rw [b4, hfa, hlt]
    exact htail _ ((Below.refl _ _).drew)
  have htl := anyI_tail (P := P) (md := .any) (ops := l.toArray) (Dom := Dom) (Q := fun a' w' => Q .normal a' w') (A := A) t _ A b3 hfA
  have hall := anyI_calm (P := P) (md := .any) (Dom := Dom) (D := D) b1 (fun _ _ _ h => h.1) (fun _ _ _ _ h hb => ⟨hdom _ _ h.1 hb, tail_below h.2 hb⟩) (fun i o hi hd v listed a w => by
    obtain ⟨d, e1, e2⟩ := hd
    unfold InvOf
    have hit : i ∉ t := fun h => by
      have := seq_no b3 i h o hi d e1
      exact this e2
    rw [yet_set hit, e1, fill_put e2]) lq s (Array.replicate l.length false) a hq (fun o ho => by have := slots_dst b5 o ho; rw [b6] at this; exact this) b2 hc htl
  refine wp_region_any hm ?_
  have := any_of_anyI (Q' := Q) (fun _ _ h => h) _ _ _ _ hin hall
  rw [hll, b8] at this
  simpa using this
/-- The same where the calm ones are the first n. -/
theorem wp_region_calm_dom {P : Program} {id : Nat} {Q : Exit → Act → World → Prop} {a : Act} {w : World} {l : List Oper} (Dom : World → Prop) (hdom : ∀ w1 w2 : World, Dom w1 → Below w1.heap.size w1 w2 → Dom w2) (h0 : Dom w) (n : Nat) (A : Act) (hm : P.follows .mixedOrders = true)
    (hB : (calmB l (List.range n) (List.range' n (l.length - n)) (l.take n) ((l.take n).filterMap (·.dst)) a.tmps.size && decide (n ≤ l.length)) = true)
    (hwalk : ∀ C : World → Prop, (∀ w', C w' → Dom w') → (∀ w1 w2, C w1 → Below w1.heap.size w1 w2 → C w2) → wpQuiet P l.toArray C (fun a' => a' = A) (l.take n) a)
    (htail : ∀ w', Below w.heap.size w w' → tailOk P l.toArray Dom (fun a' w' => Q .normal a' w') (l.drop n) A w') : (Code.region id l.toArray true).wp P Q a w := by
  simp only [Bool.and_eq_true, decide_eq_true_eq] at hB
  refine wp_region_calm Dom hdom h0 (List.range n) (List.range' n (l.length - n)) (l.take n) (l.drop n) _ A hm ?_ ?_ hB.1 hwalk htail
  · apply List.ext_getElem?
    intro i
    by_cases h : i < n
    · have : i < l.length := by omega
      simp [h, this]
    · simp [h]
      omega
  · apply List.ext_getElem?
    intro i
    by_cases h : i < l.length - n
    · have : n + i < l.length := by omega
      simp [h, this]
    · simp [h]
theorem base_dom (w0 : World) : ∀ w1 w2 : World, Below w0.heap.size w0 w1 → Below w1.heap.size w1 w2 → Below w0.heap.size w0 w2 := fun w1 w2 h1 h2 => h1.trans (h2.mono h1.size)
theorem wp_region_calm_in {P : Program} {id : Nat} {Q : Exit → Act → World → Prop} {a : Act} {w : World} {l : List Oper} (w0 : World) (h0 : Below w0.heap.size w0 w) (n : Nat) (A : Act) (hm : P.follows .mixedOrders = true)
    (hB : (calmB l (List.range n) (List.range' n (l.length - n)) (l.take n) ((l.take n).filterMap (·.dst)) a.tmps.size && decide (n ≤ l.length)) = true)
    (hwalk : ∀ C : World → Prop, (∀ w', C w' → Below w0.heap.size w0 w') → (∀ w1 w2, C w1 → Below w1.heap.size w1 w2 → C w2) → wpQuiet P l.toArray C (fun a' => a' = A) (l.take n) a)
    (htail : ∀ w', Below w.heap.size w w' → tailOk P l.toArray (fun w' => Below w0.heap.size w0 w') (fun a' w' => Q .normal a' w') (l.drop n) A w') : (Code.region id l.toArray true).wp P Q a w :=
  wp_region_calm_dom (fun w' => Below w0.heap.size w0 w') (base_dom w0) h0 n A hm hB hwalk htail
theorem wp_region_calm_at {P : Program} {id : Nat} {Q : Exit → Act → World → Prop} {a : Act} {w : World} {l : List Oper} (n : Nat) (A : Act) (hm : P.follows .mixedOrders = true)
    (hB : (calmB l (List.range n) (List.range' n (l.length - n)) (l.take n) ((l.take n).filterMap (·.dst)) a.tmps.size && decide (n ≤ l.length)) = true)
    (hwalk : ∀ C : World → Prop, (∀ w', C w' → Below w.heap.size w w') → (∀ w1 w2, C w1 → Below w1.heap.size w1 w2 → C w2) → wpQuiet P l.toArray C (fun a' => a' = A) (l.take n) a)
    (htail : ∀ w', Below w.heap.size w w' → tailOk P l.toArray (fun w' => Below w.heap.size w w') (fun a' w' => Q .normal a' w') (l.drop n) A w') : (Code.region id l.toArray true).wp P Q a w :=
  wp_region_calm_in w (Below.refl _ _) n A hm hB hwalk htail
/-! ### The calm ones told by a mask -/
def onB : List Bool → List Oper → List Oper
  | b :: m, o :: l => bif b then o :: onB m l else onB m l
  | _, _ => []
def offB : List Bool → List Oper → List Oper
  | [], l => l
  | b :: m, o :: l => bif b then offB m l else o :: offB m l
  | _ :: _, [] => []
def onI : List Bool → Nat → List Nat
  | [], _ => []
  | b :: m, k => bif b then k :: onI m (k + 1) else onI m (k + 1)
def offI (n : Nat) : List Bool → Nat → List Nat
  | [], k => List.range' k (n - k)
  | b :: m, k => bif b then offI n m (k + 1) else k :: offI n m (k + 1)
theorem on_eq : ∀ (m : List Bool) (l pre : List Oper), m.length ≤ l.length → (onI m pre.length).map (fun i => (pre ++ l).toArray[i]?) = (onB m l).map some
  | [], l, pre, _ => by cases l <;> rfl
  | b :: m, [], pre, h => by simp at h
  | b :: m, o :: l, pre, h => by
    have ih := on_eq m l (pre ++ [o]) (by simpa using h)
    rw [List.append_assoc, List.length_append] at ih
    cases b
    · exact ih
    · show _ :: _ = some o :: _
      congr 1
      simp
theorem off_eq : ∀ (m : List Bool) (l pre : List Oper), m.length ≤ l.length → (offI (pre.length + l.length) m pre.length).map (fun i => (pre ++ l).toArray[i]?) = (offB m l).map some
  | [], l, pre, _ => by
    show (List.range' pre.length (pre.length + l.length - pre.length)).map _ = l.map some
    apply List.ext_getElem?
    intro i
    by_cases h : i < l.length
    · simp [h]
    · simp [h]
  | b :: m, [], pre, h => by simp at h
  | b :: m, o :: l, pre, h => by
    have ih := off_eq m l (pre ++ [o]) (by simpa using h)
    rw [List.append_assoc, List.length_append, show pre.length + [o].length + l.length = pre.length + (o :: l).length by simp; omega] at ih
    cases b
    · show _ :: _ = some o :: _
      congr 1
      simp
    · exact ih
/-- The same, the calm ones told by a mask. -/
theorem wp_region_mask_dom {P : Program} {id : Nat} {Q : Exit → Act → World → Prop} {a : Act} {w : World} {l : List Oper} (Dom : World → Prop) (hdom : ∀ w1 w2 : World, Dom w1 → Below w1.heap.size w1 w2 → Dom w2) (h0 : Dom w) (m : List Bool) (A : Act) (hm : P.follows .mixedOrders = true)
    (hB : (calmB l (onI m 0) (offI l.length m 0) (onB m l) ((onB m l).filterMap (·.dst)) a.tmps.size && decide (m.length ≤ l.length)) = true)
    (hwalk : ∀ C : World → Prop, (∀ w', C w' → Dom w') → (∀ w1 w2, C w1 → Below w1.heap.size w1 w2 → C w2) → wpQuiet P l.toArray C (fun a' => a' = A) (onB m l) a)
    (htail : ∀ w', Below w.heap.size w w' → tailOk P l.toArray Dom (fun a' w' => Q .normal a' w') (offB m l) A w') : (Code.region id l.toArray true).wp P Q a w := by
  simp only [Bool.and_eq_true, decide_eq_true_eq] at hB
  have h1 := on_eq m l [] hB.2
  have h2 := off_eq m l [] hB.2
  simp only [List.length_nil, List.nil_append, Nat.zero_add] at h1 h2
  exact wp_region_calm Dom hdom h0 _ _ _ _ _ A hm h1 h2 hB.1 hwalk htail
theorem wp_region_mask {P : Program} {id : Nat} {Q : Exit → Act → World → Prop} {a : Act} {w : World} {l : List Oper} (w0 : World) (h0 : Below w0.heap.size w0 w) (m : List Bool) (A : Act) (hm : P.follows .mixedOrders = true)
    (hB : (calmB l (onI m 0) (offI l.length m 0) (onB m l) ((onB m l).filterMap (·.dst)) a.tmps.size && decide (m.length ≤ l.length)) = true)
    (hwalk : ∀ C : World → Prop, (∀ w', C w' → Below w0.heap.size w0 w') → (∀ w1 w2, C w1 → Below w1.heap.size w1 w2 → C w2) → wpQuiet P l.toArray C (fun a' => a' = A) (onB m l) a)
    (htail : ∀ w', Below w.heap.size w w' → tailOk P l.toArray (fun w' => Below w0.heap.size w0 w') (fun a' w' => Q .normal a' w') (offB m l) A w') : (Code.region id l.toArray true).wp P Q a w :=
  wp_region_mask_dom (fun w' => Below w0.heap.size w0 w') (base_dom w0) h0 m A hm hB hwalk htail
/-- A call in the calm walk. -/
theorem calm_call {P : Program} {C : World → Prop} {f : FuncId} {args : Array Value} {w' : World} {v : Value} (hC : ∀ w1 w2, C w1 → Below w1.heap.size w1 w2 → C w2) (hq : C w') (h : Calls P f args w' fun e w'' => e = .returned v ∧ Below w'.heap.size w' w'') : Calls P f args w' fun e w'' => e = .returned v ∧ C w'' :=
  h.mono fun _ _ ⟨he, hb⟩ => ⟨he, hC _ _ hq hb⟩
theorem tail_nil {P : Program} {ops : Array Oper} {Dom : World → Prop} {Q : Act → World → Prop} {a : Act} {w : World} (h : ∀ w', Below w.heap.size w w' → Q a w') : tailOk P ops Dom Q [] a w := h
theorem tail_cons {P : Program} {ops : Array Oper} {Dom : World → Prop} {Q : Act → World → Prop} {a : Act} {w : World} {o : Oper} {r : List Oper} (h : ∀ w', Below w.heap.size w w' → wpList P ops (only fun a' w'' => Dom w'' ∧ tailOk P ops Dom Q r a' w'') [o] a w') : tailOk P ops Dom Q (o :: r) a w := h
end Go.Proofs.Ytpejcblmglbjfaa.quiets
