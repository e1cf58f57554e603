/-
  A draw of an element: its boxes, its cursor and how many it may still draw.
-/
import Derived.Test.YtpejcblmglbjfaaDrawElP
import Derived.Test.YtpejcblmglbjfaaScope
namespace Go.Proofs.Ytpejcblmglbjfaa.draws
open Go.ChangeShapes Go.WideShapes Go.ChangeAt Go.RowKit
open pairs (Pair at0 PairsAt)
open trees (Att Tree Hdr vals TH th0 cellsN Bset Out Inc Apart OwnN OwnP OwnA OwnL RowA RowV Rng nsz nszs trees1)
set_option linter.unusedVariables false
abbrev Fm (cb mb : Nat) : Bset := fun b => b = cb ∨ b = mb
/-- A cursor, and how many may still be drawn. -/
structure Cx (w : World) (cb mb len cap : Nat) (a : Option Addr) (m : Nat) : Prop where
  cur : CurAt w cb a len cap
  most : w.heap[mb]? = some (.cells #[.int .i64 (m : Int)] 3 (0, 0))
  ne : cb ≠ mb
  code : 0 < len → ∀ b off, a = some ⟨b, off, none⟩ → b ≠ mb
theorem Cx.lt {w : World} {cb mb len cap : Nat} {a : Option Addr} {m : Nat} (h : Cx w cb mb len cap a m) : cb < w.heap.size ∧ mb < w.heap.size := ⟨h.cur.here, pairs.lt_heap h.most⟩
theorem Cx.below {w w' : World} {cb mb len cap : Nat} {a : Option Addr} {m : Nat} (h : Cx w cb mb len cap a m) (hb : Below w.heap.size w w') : Cx w' cb mb len cap a m := ⟨h.cur.stays (Nat.le_refl _) hb, (hb.block _ h.lt.2).trans h.most, h.ne, h.code⟩
theorem Cx.but {w w' : World} {cb mb len cap : Nat} {a : Option Addr} {m : Nat} (h : Cx w cb mb len cap a m) (hc : CurAt w' cb a len cap) (hb : ButFor cb w w') : Cx w' cb mb len cap a m := ⟨hc, (hb.block _ h.lt.2 h.ne.symm).trans h.most, h.ne, h.code⟩
/-- What lies beyond an earlier world turns: the cursor stays. -/
theorem Cx.far {w0 w w' : World} {cb mb len cap : Nat} {a : Option Addr} {m m0 : Nat} (h0 : Cx w0 cb mb len cap a m0) (h : Cx w cb mb len cap a m) (hs : w.heap.size ≤ w'.heap.size) (hk : ∀ k, k < w0.heap.size → w'.heap[k]? = w.heap[k]?) : Cx w' cb mb len cap a m := ⟨h0.cur.keeps h.cur hs hk, (hk _ h0.lt.2).trans h.most, h.ne, h.code⟩
theorem Cx.dec {w : World} {cb mb len cap : Nat} {a : Option Addr} {m : Nat} (h : Cx w cb mb len cap a m) (n : Nat) : Cx (w.setCell ⟨mb, 0, none⟩ (.int .i64 (n : Int))) cb mb len cap a n := by
  refine ⟨?_, by rw [pairs.block_set _ h.most]; rfl, h.ne, h.code⟩
  have hk : ∀ k, k ≠ mb → (w.setCell ⟨mb, 0, none⟩ (.int .i64 (n : Int))).heap[k]? = w.heap[k]? := fun k hk => Below.heap_setCell w ⟨mb, 0, none⟩ _ k hk
  have hc : ∀ o, (w.setCell ⟨mb, 0, none⟩ (.int .i64 (n : Int))).cell? ⟨cb, o, none⟩ = w.cell? ⟨cb, o, none⟩ := fun o => trees.cell_keep (hk cb h.ne)
  have hf : ∀ o, (w.setCell ⟨mb, 0, none⟩ (.int .i64 (n : Int))).frozen? ⟨cb, o, none⟩ = w.frozen? ⟨cb, o, none⟩ := fun o => World.frozen?_of_block (w := w) (hk cb h.ne)
  have hcur := h.cur
  exact ⟨by rw [trees.size_setCell]; exact hcur.here, (hc 0).trans hcur.c0, by obtain ⟨i, h1, h2⟩ := hcur.c1; exact ⟨i, h1, (hc 1).trans h2⟩, by obtain ⟨i, h2⟩ := hcur.c2; exact ⟨i, (hc 2).trans h2⟩, (hf 1).trans hcur.f1, (hf 2).trans hcur.f2, hcur.row.stays (by rw [trees.size_setCell]; exact Nat.le_refl _) (fun h0 b off ha hb => hk b (h.code h0 b off ha)), hcur.apart⟩
theorem out_but {cb mb : Nat} {w w' : World} (h : ButFor cb w w') : Out (Fm cb mb) w w' := ⟨h.os, h.tape, h.output, h.size, fun k hk hf => h.block k hk (fun e => hf (.inl e))⟩
def zero8 : Array Value := #[.int .i64 0, .string ⟨#[]⟩, .string ⟨#[]⟩, .string ⟨#[]⟩, .slice none 0 0, .slice none 0 0, .slice none 0 0, .string ⟨#[]⟩]
/-- A phase of the draw: the answer's box, the element's box. -/
structure Ph (w W : World) (cb mb len cap : Nat) (a : Option Addr) (m nb : Nat) (C : Array Value) : Prop where
  st : ∃ m0, Cx w cb mb len cap a m0
  cx : Cx W cb mb len cap a m
  res : W.heap[w.heap.size]? = some (.cells #[.int .i64 0, .string ⟨#[]⟩, .string ⟨#[]⟩, .string ⟨#[]⟩, .slice none 0 0, .slice none 0 0, .slice none 0 0, .string ⟨#[]⟩] 28 (0, 0))
  box : W.heap[nb]? = some (.cells C 28 (0, 0))
  out : Out (Fm cb mb) w W
  gt : w.heap.size < nb
theorem Ph.far {w W W' : World} {cb mb len cap : Nat} {a : Option Addr} {m nb : Nat} {C : Array Value} (h : Ph w W cb mb len cap a m nb C) (hs : W.heap.size ≤ W'.heap.size) (h1 : W'.os = W.os) (h2 : W'.tape = W.tape) (h3 : W'.output = W.output) (hk : ∀ k, k ≤ nb → W'.heap[k]? = W.heap[k]?) : Ph w W' cb mb len cap a m nb C := by
  obtain ⟨m0, h0⟩ := h.st
  have hg := h.gt
  exact ⟨h.st, h0.far h.cx hs (fun k hk' => hk k (by omega)), (hk _ (by omega)).trans h.res, (hk _ (Nat.le_refl _)).trans h.box, ⟨h1.trans h.out.os, h2.trans h.out.tape, h3.trans h.out.output, Nat.le_trans h.out.size hs, fun k hk' hf => (hk k (by omega)).trans (h.out.block k hk' hf)⟩, h.gt⟩
theorem Ph.below {w W W' : World} {cb mb len cap : Nat} {a : Option Addr} {m nb : Nat} {C : Array Value} (h : Ph w W cb mb len cap a m nb C) (hb : Below W.heap.size W W') : Ph w W' cb mb len cap a m nb C := h.far hb.size hb.os hb.tape hb.output (fun k hk => hb.block k (by have := pairs.lt_heap h.box; omega))
theorem Ph.over {w W W' : World} {cb mb len cap B : Nat} {a : Option Addr} {m nb : Nat} {C : Array Value} (h : Ph w W cb mb len cap a m nb C) (hb : Below B W W') (hB : nb < B) : Ph w W' cb mb len cap a m nb C := h.far hb.size hb.os hb.tape hb.output (fun k hk => hb.block k (by omega))
theorem Ph.lts {w W : World} {cb mb len cap : Nat} {a : Option Addr} {m nb : Nat} {C : Array Value} (h : Ph w W cb mb len cap a m nb C) : cb < w.heap.size ∧ mb < w.heap.size ∧ nb < W.heap.size := by
  obtain ⟨m0, h0⟩ := h.st
  exact ⟨h0.lt.1, h0.lt.2, pairs.lt_heap h.box⟩
theorem Ph.turn {w W W' : World} {cb mb len cap : Nat} {a : Option Addr} {m m' nb : Nat} {C : Array Value} (h : Ph w W cb mb len cap a m nb C) (hc : Cx W' cb mb len cap a m') (ho : Out (Fm cb mb) W W') : Ph w W' cb mb len cap a m' nb C := by
  obtain ⟨h1, h2, h3⟩ := h.lts
  have hg := h.gt
  exact ⟨h.st, hc, (ho.block _ (by omega) (fun hf => by rcases hf with e | e <;> omega)).trans h.res, (ho.block _ h3 (fun hf => by rcases hf with e | e <;> omega)).trans h.box, h.out.trans ho, h.gt⟩
theorem Ph.but {w W W' : World} {cb mb len cap : Nat} {a : Option Addr} {m nb : Nat} {C : Array Value} (h : Ph w W cb mb len cap a m nb C) (hc : CurAt W' cb a len cap) (hb : ButFor cb W W') : Ph w W' cb mb len cap a m nb C := h.turn (h.cx.but hc hb) (out_but hb)
theorem Ph.set {w W : World} {cb mb len cap : Nat} {a : Option Addr} {m nb : Nat} {C : Array Value} (h : Ph w W cb mb len cap a m nb C) (i : Nat) (u : Value) : Ph w (W.setCell ⟨nb, i, none⟩ u) cb mb len cap a m nb (C.setIfInBounds i u) := by
  obtain ⟨m0, h0⟩ := h.st
  have hg := h.gt
  have hk : ∀ k, k ≠ nb → (W.setCell ⟨nb, i, none⟩ u).heap[k]? = W.heap[k]? := fun k hk => Below.heap_setCell W ⟨nb, i, none⟩ _ k hk
  exact ⟨h.st, h0.far h.cx (by rw [trees.size_setCell]; exact Nat.le_refl _) (fun k hk' => hk k (by omega)), (hk _ (by omega)).trans h.res, pairs.block_set _ h.box, ⟨h.out.os, h.out.tape, h.out.output, by rw [trees.size_setCell]; exact h.out.size, fun k hk' hf => (hk k (by omega)).trans (h.out.block k hk' hf)⟩, h.gt⟩
theorem Ph.dec {w W : World} {cb mb len cap : Nat} {a : Option Addr} {m nb : Nat} {C : Array Value} (h : Ph w W cb mb len cap a m nb C) (n : Nat) : Ph w (W.setCell ⟨mb, 0, none⟩ (.int .i64 (n : Int))) cb mb len cap a n nb C :=
  h.turn (h.cx.dec n) ((Out.refl _ _).set (.inr rfl) _ _)
/-- Below s nothing has turned but the cursor, the most and the element's box. -/
structure Fr (cb mb nb s : Nat) (W W' : World) : Prop where
  size : W.heap.size ≤ W'.heap.size
  keep : ∀ k, k < s → k ≠ cb → k ≠ mb → k ≠ nb → W'.heap[k]? = W.heap[k]?
theorem Fr.refl (cb mb nb s : Nat) (W : World) : Fr cb mb nb s W W := ⟨Nat.le_refl _, fun _ _ _ _ _ => rfl⟩
theorem Fr.trans {cb mb nb s : Nat} {W W1 W2 : World} (h : Fr cb mb nb s W W1) (h' : Fr cb mb nb s W1 W2) : Fr cb mb nb s W W2 := ⟨Nat.le_trans h.size h'.size, fun k a b c d => (h'.keep k a b c d).trans (h.keep k a b c d)⟩
theorem Fr.over {cb mb nb s : Nat} {W W1 W2 : World} (h : Fr cb mb nb s W W1) (hb : Below s W1 W2) : Fr cb mb nb s W W2 := h.trans ⟨hb.size, fun k a _ _ _ => hb.block k a⟩
theorem Fr.below {cb mb nb s : Nat} {W W1 W2 : World} (h : Fr cb mb nb s W W1) (hs : s ≤ W.heap.size) (hb : Below W1.heap.size W1 W2) : Fr cb mb nb s W W2 := h.over (hb.mono (Nat.le_trans hs h.size))
theorem Fr.out {cb mb nb s : Nat} {W W1 W2 : World} (h : Fr cb mb nb s W W1) (hs : s ≤ W.heap.size) (ho : Out (Fm cb mb) W1 W2) : Fr cb mb nb s W W2 := h.trans ⟨ho.size, fun k a b c _ => ho.block k (Nat.lt_of_lt_of_le a (Nat.le_trans hs h.size)) (fun hf => by rcases hf with e | e <;> contradiction)⟩
theorem Fr.set {cb mb nb s : Nat} {W W1 : World} (h : Fr cb mb nb s W W1) (i : Nat) (u : Value) : Fr cb mb nb s W (W1.setCell ⟨nb, i, none⟩ u) := h.trans ⟨by rw [trees.size_setCell]; exact Nat.le_refl _, fun k _ _ _ d => Below.heap_setCell W1 ⟨nb, i, none⟩ _ k d⟩
theorem Fr.setm {cb mb nb s : Nat} {W W1 : World} (h : Fr cb mb nb s W W1) (i : Nat) (u : Value) : Fr cb mb nb s W (W1.setCell ⟨mb, i, none⟩ u) := h.trans ⟨by rw [trees.size_setCell]; exact Nat.le_refl _, fun k _ _ d _ => Below.heap_setCell W1 ⟨mb, i, none⟩ _ k d⟩
theorem Fr.own {cb mb nb s : Nat} {W W' : World} {a : Option Addr} {L : List Pair} (h : Fr cb mb nb s W W') (hc : cb < nb) (hm : mb < nb) (ho : OwnP W a L (fun g => nb < g ∧ g < s)) : OwnP W' a L (fun g => nb < g ∧ g < s) := fun h0 => by
  obtain ⟨g, e1, e2, e3⟩ := ho h0
  obtain ⟨cur, t, h1, h2, h3⟩ := e3.all
  exact ⟨g, e1, e2, cur, t, (h.keep g e2.2 (by omega) (by omega) (by omega)).trans h1, h2, h3⟩
theorem Fr.pairs {cb mb nb s : Nat} {W W' : World} {a : Option Addr} {L : List Pair} (h : Fr cb mb nb s W W') (hc : cb < nb) (hm : mb < nb) (hp : PairsAt W a L) (ha : ∀ b off, a = some ⟨b, off, none⟩ → nb < b ∧ b < s) : PairsAt W' a L :=
  trees.pairs_keep hp h.size (fun b off e hb => by obtain ⟨h1, h2⟩ := ha b off e; exact h.keep b h2 (by omega) (by omega) (by omega))
/-- The Attrs so far: none, or a row of the call's own. -/
def AttR (w : World) (B : Nat) (v : Value) (L : List Att) : Prop := (v = .slice none 0 0 ∧ L = []) ∨ ∃ g c, v = .slice (some ⟨g, 0, none⟩) L.length c ∧ RowA w B g L.length c L
/-- AttR, as one word. -/
structure AttV (w : World) (B : Nat) (v : Value) (L : List Att) : Prop where
  row : AttR w B v L
  fine : ∀ x ∈ L, x.size ≤ 720
theorem AttV.of {w w' : World} {B : Nat} {v : Value} {L : List Att} (h : AttV w B v L) (hk : ∀ g, B ≤ g → g < w.heap.size → w'.heap[g]? = w.heap[g]?) : AttV w' B v L := by
  refine ⟨?_, h.fine⟩
  rcases h.row with h0 | ⟨g, c, h1, h2⟩
  · exact .inl h0
  · exact .inr ⟨g, c, h1, own_same h2.own (fun g' e => by cases e; exact hk g h2.lt.1 h2.lt.2), h2.len⟩
theorem AttV.below {w w' : World} {B : Nat} {v : Value} {L : List Att} (h : AttV w B v L) (hb : Below w.heap.size w w') : AttV w' B v L := h.of (fun g _ hg => hb.block g hg)
theorem AttV.out {w w' : World} {B : Nat} {v : Value} {L : List Att} {F : Bset} (h : AttV w B v L) (ho : Out F w w') (hF : ∀ b, F b → b < B) : AttV w' B v L := h.of (fun g h1 h2 => ho.block g h2 (fun hf => by have := hF g hf; omega))
theorem AttV.set {w : World} {B : Nat} {v : Value} {L : List Att} {q i : Nat} {u : Value} (h : AttV w B v L) (hq : q < B) : AttV (w.setCell ⟨q, i, none⟩ u) B v L := h.of (fun g h1 h2 => Below.heap_setCell w ⟨q, i, none⟩ _ g (by show g ≠ q; omega))
theorem AttV.shape {w : World} {B : Nat} {v : Value} {L : List Att} (h : AttV w B v L) : ∃ a c, v = .slice a L.length c ∧ trees.OwnA w a L (fun g => B ≤ g ∧ g < w.heap.size) := by
  rcases h.row with ⟨h0, h1⟩ | ⟨g, c, h1, h2⟩
  · subst h1; exact ⟨none, 0, h0, fun h => absurd h (by simp)⟩
  · exact ⟨some ⟨g, 0, none⟩, c, h1, fun _ => ⟨g, rfl, h2.lt, h2.made⟩⟩
theorem AttV.nil (w : World) (B : Nat) : AttV w B (.slice none 0 0) [] := ⟨.inl ⟨rfl, rfl⟩, fun x h => by cases h⟩
/-- The last Attr of a row, as it lies in memory. -/
theorem AttV.last {w : World} {B : Nat} {v : Value} {L : List Att} {k : Nat} (h : AttV w B v L) (hk : L.length = k + 1) : ∃ g c, v = .slice (some ⟨g, 0, none⟩) (k + 1) c ∧ RowA w B g (k + 1) c L ∧ w.cell? ⟨g, k * 4, none⟩ = some (.string (trees.att0 L k).pre) ∧ w.cell? ⟨g, k * 4 + 1, none⟩ = some (.string (trees.att0 L k).loc) ∧ w.cell? ⟨g, k * 4 + 2, none⟩ = some (.string (trees.att0 L k).uri) ∧ w.cell? ⟨g, k * 4 + 3, none⟩ = some (.string (trees.att0 L k).val) := by
  rcases h.row with ⟨_, h1⟩ | ⟨g, c, h1, h2⟩
  · subst h1; simp at hk
  · rw [hk] at h1 h2
    obtain ⟨cur, t, e1, e2, e3⟩ := h2.made.all
    obtain ⟨a1, a2, a3, a4⟩ := e3 k (by omega)
    exact ⟨g, c, h1, h2, by simp [World.cell?, e1, a1], by simp [World.cell?, e1, a2], by simp [World.cell?, e1, a3], by simp [World.cell?, e1, a4]⟩
theorem box4 {w : World} {b : Nat} {t : TypeId} {c0 c1 c2 c3 : Value} (h : w.heap[b]? = some (.cells #[c0, c1, c2, c3] t (0, 0))) :
    (w.cell? ⟨b, 0, none⟩ = some c0 ∧ w.cell? ⟨b, 1, none⟩ = some c1 ∧ w.cell? ⟨b, 2, none⟩ = some c2 ∧ w.cell? ⟨b, 3, none⟩ = some c3) ∧ w.frozen? ⟨b, 0, none⟩ = false ∧ w.frozen? ⟨b, 2, none⟩ = false := by
  simp [World.cell?, World.frozen?, h]
end Go.Proofs.Ytpejcblmglbjfaa.draws
