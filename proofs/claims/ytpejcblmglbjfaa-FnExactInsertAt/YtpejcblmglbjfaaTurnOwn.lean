/-
  A tree of the call's own that is turned in place: the Kids of what stands at a path are other ones.
-/
import Derived.Test.YtpejcblmglbjfaaPutP
import Derived.Test.YtpejcblmglbjfaaImplAt
namespace Go.Proofs.Ytpejcblmglbjfaa.paths
open Go.ChangeShapes Go.WideShapes Go.ChangeAt Go.RowKit
open trees (Tree Hdr vals noTree kid nsz nszs tsize ksize NodeIn NodesAt OwnN OwnL Rng Out Inc Apart Bset PartsN mergeL)
open ints (IntsAt int0 okI)
set_option linter.unusedVariables false
/-- t, with M in the place of the Kids of what stands at a path. -/
def putK : Tree → List Int → List Tree → Tree
  | t, [], M => withKids t M
  | t, i :: p, M => withKids t (t.kids.set i.toNat (putK (kid t.kids i.toNat) p M))
theorem put_k : ∀ (P : List Int) (t x : Tree) (f g : Nat) (L : List Tree), atT t P = some x → putT t P f g L = putK t P (mergeL (cutIn x.kids f g L))
  | [], t, x, f, g, L, h => by
    unfold atT at h
    cases h
    rfl
  | i :: p, t, x, f, g, L, h => by
    unfold atT at h
    cases hs : stepT t i with
    | none => rw [hs] at h; cases h
    | some y =>
      rw [hs] at h
      obtain ⟨hi, rfl⟩ := step_some hs
      show withKids t _ = withKids t _
      rw [put_k p _ x f g L h]
theorem vals_inj {t : Tree} {h h' : Hdr} (e : ∀ j, j < 8 → (vals t h)[j]? = (vals t h')[j]?) : h = h' := by
  obtain ⟨k, p, l, u, x, ds, ats, ks⟩ := t
  obtain ⟨a1, a2, a3, a4, a5, a6⟩ := h
  obtain ⟨b1, b2, b3, b4, b5, b6⟩ := h'
  have e4 := e 4 (by omega)
  have e5 := e 5 (by omega)
  have e6 := e 6 (by omega)
  simp [vals, Tree.ds, Tree.ats, Tree.kids] at e4 e5 e6
  obtain ⟨rfl, rfl⟩ := e4
  obtain ⟨rfl, rfl⟩ := e5
  obtain ⟨rfl, rfl⟩ := e6
  rfl
theorem kid_set (K : List Tree) (n i : Nat) (x : Tree) (hn : n < K.length) : kid (K.set n x) i = if i = n then x else kid K i := by
  unfold kid
  rw [List.getD_eq_getElem?_getD, List.getD_eq_getElem?_getD, List.getElem?_set]
  by_cases e : n = i
  · subst e
    rw [if_pos rfl, if_pos hn, if_pos rfl]
    rfl
  · rw [if_neg e, if_neg (fun h => e h.symm)]
/-- Where a path leads, below a node that is owned: a block of its own. -/
theorem place_in {w : World} {x : Tree} {hx : Hdr} {b' off' : Nat} : ∀ (p : List Int) (i : Int) (t : Tree) (h : Hdr) (F : Bset) (b off : Nat), OwnN w t h F → Place w t h b off (i :: p) x hx b' off' → F b' ∧ ∃ cur ty, w.heap[b']? = some (.cells cur ty (0, 0)) ∧ off' + 8 ≤ cur.size
  | p, i, t, h, F, b, off, hn, hp => by
    obtain ⟨hi, rb, ro, hk, ha, hlt, hc, hp⟩ := hp
    obtain ⟨FD, FA, FK, hpt⟩ := hn.parts
    obtain ⟨g, cr, ty1, G, ha', hr⟩ := hpt.kids (by omega)
    have e := ha.symm.trans ha'
    cases e
    obtain ⟨g, rfl⟩ : ∃ g, g = rb := ⟨_, rfl⟩
    have hlt2 : i.toNat < t.kids.length := by omega
    cases p with
    | nil =>
      obtain ⟨-, -, rfl, rfl⟩ := hp
      exact ⟨hpt.sk _ hr.mem, cr, ty1, hr.blk, by have := hr.room; omega⟩
    | cons j q =>
      obtain ⟨hy, e1, e2⟩ := hr.kids i.toNat hlt2
      have hkk : hk = hy := vals_inj fun j hj => (hc j hj).symm.trans ((show w.cell? ⟨g, 0 + i.toNat * 8 + j, none⟩ = cr[i.toNat * 8 + j]? by rw [Nat.zero_add]; simp [World.cell?, hr.blk]).trans (e2 j hj))
      subst hkk
      have := place_in q j (kid t.kids i.toNat) hk (G i.toNat) g _ e1 hp
      exact ⟨hpt.sk _ (hr.sub _ _ this.1), this.2⟩
/-- The slice of the Kids, in one node's cells, is another one. -/
structure Turned (w w' : World) (b' off' : Nat) (v : Value) : Prop where
  out : Out (fun k => k = b') w w'
  blk : ∀ cur ty, w.heap[b']? = some (.cells cur ty (0, 0)) → w'.heap[b']? = some (.cells (cur.setIfInBounds (off' + 6) v) ty (0, 0))
theorem turn_own (M : List Tree) (ka : Option Addr) (c : Nat) (F2 : Bset) (w w' : World) (b' off' : Nat) (x : Tree) (hx : Hdr) (ht : Turned w w' b' off' (.slice ka M.length c)) (hM : OwnL w' ka M F2) (hc : M.length ≤ c) (hl : M.length ≤ maxLen) :
    ∀ (P : List Int) (t : Tree) (h : Hdr) (F : Bset) (b off : Nat) (cur : Array Value) (ty : TypeId), OwnN w t h F → ¬ F b → Apart F F2 → w.heap[b]? = some (.cells cur ty (0, 0)) → off + 8 ≤ cur.size → (∀ j, j < 8 → cur[off + j]? = (vals t h)[j]?) → Place w t h b off P x hx b' off' →
    ∃ h' cur', OwnN w' (putK t P M) h' (fun k => F k ∨ F2 k) ∧ w'.heap[b]? = some (.cells cur' ty (0, 0)) ∧ cur'.size = cur.size ∧ (∀ j, j < off ∨ off + 8 ≤ j → cur'[j]? = cur[j]?) ∧ ∀ j, j < 8 → cur'[off + j]? = (vals (putK t P M) h')[j]?
  | [], t, h, F, b, off, cur, ty, hn, hb, ha2, hw, hsz, hcv, hp => by
    obtain ⟨-, -, rfl, rfl⟩ := hp
    obtain ⟨FD, FA, FK, hpt⟩ := hn.parts
    obtain ⟨da, dc, aa, ac, ka0, kc0⟩ := h
    refine ⟨⟨da, dc, aa, ac, ka, c⟩, _, ?_, ht.blk cur ty hw, by simp, fun j hj => ?_, fun j hj => ?_⟩
    · have hf := hpt.fit.1
      have hds := hpt.ds.out ht.out (fun k hk e => hb (e ▸ hpt.sd k hk))
      have hats := hpt.ats.out ht.out (fun k hk e => hb (e ▸ hpt.sa k hk))
      obtain ⟨k, p, l, u, x0, ds, ats, ks⟩ := t
      exact PartsN.node (FD := FD) (FA := FA) (FK := F2) ⟨⟨⟨hf.1, hf.2.1, hf.2.2.1, hf.2.2.2.1, hf.2.2.2.2.1, hl⟩, hc⟩, hpt.pf, hpt.af, fun k hk => .inl (hpt.sd k hk), fun k hk => .inl (hpt.sa k hk), fun k hk => .inr hk, hpt.da, ha2.sub hpt.sd (Inc.refl _), ha2.sub hpt.sa (Inc.refl _), hds, hats, hM⟩
    · rw [Array.getElem?_setIfInBounds]
      rw [if_neg (by omega)]
    · rw [Array.getElem?_setIfInBounds]
      obtain ⟨k, p, l, u, x0, ds, ats, ks⟩ := t
      by_cases e : j = 6
      · subst e
        rw [if_pos rfl, if_pos (by omega)]
        rfl
      · rw [if_neg (by omega), hcv j hj]
        rcases (show j = 0 ∨ j = 1 ∨ j = 2 ∨ j = 3 ∨ j = 4 ∨ j = 5 ∨ j = 7 by omega) with rfl | rfl | rfl | rfl | rfl | rfl | rfl <;> rfl
  | i :: p, t, h, F, b, off, cur, ty, hn, hb, ha2, hw, hsz, hcv, hp => by
    have hin := (place_in p i t h F b off hn hp).1
    obtain ⟨hi, rb, ro, hk, ha, hlt, hc', hp⟩ := hp
    obtain ⟨FD, FA, FK, hpt⟩ := hn.parts
    obtain ⟨g, cr, ty1, G, ha', hr⟩ := hpt.kids (by omega)
    have e := ha.symm.trans ha'
    cases e
    obtain ⟨g, rfl⟩ : ∃ g, g = rb := ⟨_, rfl⟩
    have hlt2 : i.toNat < t.kids.length := by omega
    obtain ⟨hy, e1, e2⟩ := hr.kids i.toNat hlt2
    have hkk : hk = hy := vals_inj fun j hj => (hc' j hj).symm.trans ((show w.cell? ⟨g, 0 + i.toNat * 8 + j, none⟩ = cr[i.toNat * 8 + j]? by rw [Nat.zero_add]; simp [World.cell?, hr.blk]).trans (e2 j hj))
    subst hkk
    have hb' : b' = g ∨ G i.toNat b' := by
      cases p with
      | nil => exact .inl hp.2.2.1
      | cons j q => exact .inr (place_in q j _ _ _ _ _ e1 hp).1
    have hgF : F g := hpt.sk _ hr.mem
    obtain ⟨y', cur', i1, i2, i3, i4, i5⟩ := turn_own M ka c F2 w w' b' off' x hx ht hM hc hl p (kid t.kids i.toNat) hk (G i.toNat) g (0 + i.toNat * 8) cr ty1 e1 (hr.not _) (ha2.sub ((hr.sub _).trans hpt.sk) (Inc.refl _)) hr.blk (by have := hr.room; omega) (fun j hj => by rw [Nat.zero_add]; exact e2 j hj) hp
    have hne : b ≠ b' := fun e => hb (e ▸ hin)
    refine ⟨h, cur, ?_, (ht.out.block b (pairs.lt_heap hw) hne).trans hw, rfl, fun _ _ => rfl, fun j hj => (hcv j hj).trans ?_⟩
    · have hds := hpt.ds.out ht.out (fun k hk e => by subst e; rcases hb' with e | e; · subst e; exact hpt.dk _ hk hr.mem
                                                      · exact hpt.dk _ hk (hr.sub _ _ e))
      have hats := hpt.ats.out ht.out (fun k hk e => by subst e; rcases hb' with e | e; · subst e; exact hpt.ak _ hk hr.mem
                                                        · exact hpt.ak _ hk (hr.sub _ _ e))
      have hset : OwnL w' h.ka (t.kids.set i.toNat (putK (kid t.kids i.toNat) p M)) (fun k => FK k ∨ F2 k) := fun _ => by
        refine ⟨g, cur', ty1, fun k b => G k b ∨ (k = i.toNat ∧ F2 b), ha', .inl hr.mem, i2, ?_, ?_, ?_, ?_, ?_⟩
        · rw [List.length_set, i3]; exact hr.room
        · rintro k b (h1 | ⟨_, h1⟩)
          · exact .inl (hr.sub _ _ h1)
          · exact .inr h1
        · rintro k (h1 | ⟨_, h1⟩)
          · exact hr.not _ h1
          · exact ha2 g hgF h1
        · rintro k j hkj b (h1 | ⟨rfl, h1⟩) (h2 | ⟨rfl, h2⟩)
          · exact hr.apart k j hkj b h1 h2
          · exact ha2 b (hpt.sk _ (hr.sub _ _ h1)) h2
          · exact ha2 b (hpt.sk _ (hr.sub _ _ h2)) h1
          · exact hkj rfl
        · intro k hk'
          rw [List.length_set] at hk'
          rw [kid_set _ _ _ _ hlt2]
          by_cases ek : k = i.toNat
          · subst ek
            rw [if_pos rfl]
            refine ⟨y', i1.sub (fun b hb => ?_), fun j hj => ?_⟩
            · rcases hb with h1 | h1
              · exact .inl h1
              · exact .inr ⟨rfl, h1⟩
            · have := i5 j hj
              rwa [Nat.zero_add] at this
          · rw [if_neg ek]
            obtain ⟨h3, f1, f2⟩ := hr.kids k hk'
            refine ⟨h3, (f1.out ht.out (fun b hb e => ?_)).sub (fun b hb => .inl hb), fun j hj => ?_⟩
            · subst e
              rcases hb' with e | e
              · subst e; exact hr.not _ hb
              · exact hr.apart _ _ ek _ hb e
            · rw [i4 (k * 8 + j) (by omega)]
              exact f2 j hj
      have hf := hpt.fit
      show OwnN w' (withKids t _) h _
      have hlen : (t.kids.set i.toNat (putK (kid t.kids i.toNat) p M)).length = t.kids.length := List.length_set
      obtain ⟨Q, hQ⟩ : ∃ Q, t.kids.set i.toNat (putK (kid t.kids i.toNat) p M) = Q := ⟨_, rfl⟩
      rw [hQ] at hset hlen ⊢
      have hpf := hpt.pf
      have haf := hpt.af
      clear hc' hcv hr hQ e1 e2 hn hp
      obtain ⟨k, q, l, u, x0, ds, ats, ks⟩ := t
      exact PartsN.node (FD := FD) (FA := FA) (FK := fun k => FK k ∨ F2 k) ⟨⟨⟨hf.1.1, hf.1.2.1, hf.1.2.2.1, hf.1.2.2.2.1, hf.1.2.2.2.2.1, by show Q.length ≤ _; rw [hlen]; exact hf.1.2.2.2.2.2⟩, by show Q.length ≤ _; rw [hlen]; exact hf.2⟩, hpf, haf, fun k hk => .inl (hpt.sd k hk), fun k hk => .inl (hpt.sa k hk), fun k hk => by { rcases hk with h1 | h1; exact .inl (hpt.sk _ h1); exact .inr h1 }, hpt.da, fun b h1 h2 => by { rcases h2 with h2 | h2; exact hpt.dk b h1 h2; exact ha2 b (hpt.sd b h1) h2 }, fun b h1 h2 => by { rcases h2 with h2 | h2; exact hpt.ak b h1 h2; exact ha2 b (hpt.sa b h1) h2 }, hds, hats, hset⟩
    · show _ = (vals (withKids t _) h)[j]?
      have hlen : (t.kids.set i.toNat (putK (kid t.kids i.toNat) p M)).length = t.kids.length := List.length_set
      obtain ⟨Q, hQ⟩ : ∃ Q, t.kids.set i.toNat (putK (kid t.kids i.toNat) p M) = Q := ⟨_, rfl⟩
      rw [hQ] at hlen ⊢
      clear hc' hcv hr hQ e1 e2 hn hp hpt
      obtain ⟨k, q, l, u, x0, ds, ats, ks⟩ := t
      have e : vals (withKids (.mk k q l u x0 ds ats ks) Q) h = vals (.mk k q l u x0 ds ats ks) h := by
        show #[_, _, _, _, _, _, Value.slice h.ka Q.length h.kc, _] = #[_, _, _, _, _, _, Value.slice h.ka ks.length h.kc, _]
        rw [hlen]
        rfl
      rw [e]
end Go.Proofs.Ytpejcblmglbjfaa.paths
