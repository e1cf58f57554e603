/-
  A map from texts to structs of two texts, of the call's own: what stands at a key is the second text of the struct.
-/
import Derived.Test.YtekbpekfomblbaaGreatDoorRows
import Derived.WalkKit
import Derived.ProofKit
import Derived.Below
import Derived.Maps.OwnSet
namespace Go.Proofs.YtekbpekfomblbaaGreatDoor.tmaps
open Go.ChangeShapes Go.WideShapes Go.RowKit Go.Maps
set_option linter.unusedVariables false
/-- How an element reads: by its second text. -/
def pairElem : Value → Option (DataW Unit × List MemPlace)
  | .agg cs => match cs.toList with
    | [.string n, .string v] => some (.lit (.string v.data.toList), [])
    | _ => none
  | _ => none
theorem pairElem_mk (n v : ByteArray) : pairElem (.agg #[.string n, .string v]) = some (.lit (.string v.data.toList), []) := rfl
theorem data_inj {a b : ByteArray} (h : a.data.toList = b.data.toList) : a = b := ByteArray.ext (Array.toList_inj.1 h)
theorem pairElem_inv {u : Value} {l : List UInt8} {ps : List MemPlace} (h : pairElem u = some (.lit (.string l), ps)) : ∃ n v : ByteArray, u = .agg #[.string n, .string v] ∧ v.data.toList = l := by
  unfold pairElem at h
  split at h
  · rename_i cs
    split at h
    · rename_i n v hcs
      refine ⟨n, v, ?_, ?_⟩
      · have : cs = #[.string n, .string v] := Array.toList_inj.1 hcs
        rw [this]
      · simp only [Option.some.injEq, Prod.mk.injEq, DataW.lit.injEq, Lit.string.injEq] at h
        exact h.1
    · cases h
  · cases h
abbrev Meaning := ByteArray → Option ByteArray
def putM (M : Meaning) (k v : ByteArray) : Meaning := fun x => if x = k then some v else M x
def delM (M : Meaning) (k : ByteArray) : Meaning := fun x => if x = k then none else M x
def keyL (k : ByteArray) : Lit := .string k.data.toList
theorem keyL_ne {a b : ByteArray} (h : a ≠ b) : keyL a ≠ keyL b := fun e => h (data_inj (Lit.string.inj e))
theorem law {P : Program} (h9 : P.underlying 9 = some .string) : Keyed P 9 := string_keyed h9
/-- Block b is a map of at most n entries that means M. -/
structure MapAt (P : Program) (w : World) (b n : Nat) (M : Meaning) : Prop where
  own : ∃ D : DataW Unit, w.ownsMap P 9 pairElem b n D ∧ ∀ k : ByteArray, k.size ≤ maxLen → has D (keyL k) = (M k).isSome ∧ D.atKey (keyL k) (.lit (.string [])) = .lit (.string ((M k).getD ⟨#[]⟩).data.toList)
theorem MapAt.made (P : Program) (w : World) : MapAt P (w.alloc (.map #[] 0)) w.heap.size 0 (fun _ => none) := ⟨_, World.ownsMap_made w P 9 pairElem, fun k _ => ⟨rfl, rfl⟩⟩
theorem MapAt.lt {P : Program} {w : World} {b n : Nat} {M : Meaning} (h : MapAt P w b n M) : b < w.heap.size := by
  obtain ⟨D, ho, _⟩ := h
  exact ho.lt
theorem MapAt.kept {P : Program} {w w' : World} {row : Option Nat} {b n : Nat} {M : Meaning} (h : MapAt P w b n M) (hg : w.grownBy w' row) (hne : some b ≠ row) : MapAt P w' b n M := by
  obtain ⟨D, ho, hM⟩ := h
  exact ⟨D, ho.kept hg hne, hM⟩
theorem MapAt.below {P : Program} {w w' : World} {b n : Nat} {M : Meaning} (h : MapAt P w b n M) (hb : Below w.heap.size w w') : MapAt P w' b n M :=
  h.kept (row := none) ⟨hb.os, hb.tape, hb.output, hb.size, fun k hk _ => hb.block k hk⟩ (by simp)
theorem MapAt.congr {P : Program} {w : World} {b n : Nat} {M M' : Meaning} (h : MapAt P w b n M) (hM : ∀ k, k.size ≤ maxLen → M k = M' k) : MapAt P w b n M' := by
  obtain ⟨D, ho, hD⟩ := h
  exact ⟨D, ho, fun k hk => by rw [← hM k hk]; exact hD k hk⟩
theorem below_turned {B : Nat} {w w1 w2 : World} {b : Nat} (h : Below B w w1) (hb : B ≤ b) (hl : b < w1.heap.size) (hg : w1.grownBy w2 (some b)) : Below B w w2 :=
  h.trans ⟨hg.os, hg.tape, hg.output, hg.size, fun k hk => hg.block k (by omega) (fun e => by have := Option.some.inj e; omega)⟩
section
variable {P : Program} (w : World) {ops : Array Oper} {rest : List Oper} {o : Oper} {a : Act} {Q : Exit → Act → World → Prop}
/-- 'm[k] = e' -/
theorem wp_put (h9 : P.underlying 9 = some .string) (hg : o.guard = none) (m x v : Operand) (t e : TypeId) (hop : o.op = Op.mapUpdate t m x v) (ht : P.underlying t = some (.map 9 e)) (b n : Nat) (M : Meaning)
    (hm : a.eval m = .map (some b)) (hown : MapAt P w b n M) (hn : n < 1000) (k nm y : ByteArray) (hx : a.eval x = .string k) (hk : k.size ≤ maxLen) (hv : a.eval v = .agg #[.string nm, .string y])
    (hK : ∀ w', MapAt P w' b (n + 1) (putM M k y) → w.grownBy w' (some b) → wpList P ops Q rest (a.put o.dst undef) w') : wpList P ops Q (o :: rest) a w := by
  obtain ⟨D, ho, hD⟩ := hown
  have hkey : keyOf P 9 (.string k) = some (keyL k) := WideMaps.keyOf_string_mk h9 hk
  refine wpList_mapUpdate_own w hg m x v t hop 9 e (law h9) ht pairElem b n D hm ho (by unfold maxLen; omega) _ _ (keyL k) hx hv hkey _ [] (pairElem_mk nm y) ?_
  intro w' ho' hg'
  refine hK w' ⟨_, ho', fun q hq => ?_⟩ hg'
  unfold putM
  by_cases e1 : q = k
  · subst e1
    rw [if_pos rfl]
    exact ⟨has_put_same ho.isMap ((law h9).key hkey) _, atKey_put_same ho.isMap ((law h9).key hkey) _ _⟩
  · rw [if_neg e1, has_put_other (keyL_ne e1), atKey_put_other (keyL_ne e1)]
    exact hD q hq
/-- 'delete(m, k)' -/
theorem wp_del (h9 : P.underlying 9 = some .string) (hg : o.guard = none) (m x : Operand) (t e : TypeId) (hop : o.op = Op.call { callee := Callee.builtin Builtin.delete, args := #[m, x], argTypes := #[t, 9] }) (ht : P.underlying t = some (.map 9 e)) (b n : Nat) (M : Meaning)
    (hm : a.eval m = .map (some b)) (hown : MapAt P w b n M) (k : ByteArray) (hx : a.eval x = .string k) (hk : k.size ≤ maxLen)
    (hK : ∀ w', MapAt P w' b n (delM M k) → w.grownBy w' (some b) → wpList P ops Q rest (a.put o.dst (.tuple #[])) w') : wpList P ops Q (o :: rest) a w := by
  obtain ⟨D, ho, hD⟩ := hown
  have hkey : keyOf P 9 (.string k) = some (keyL k) := WideMaps.keyOf_string_mk h9 hk
  refine wpList_delete_own w hg m x t 9 hop e (law h9) ht pairElem b n D hm ho _ (keyL k) hx hkey ?_
  intro w' ho' hg'
  refine hK w' ⟨_, ho', fun q hq => ?_⟩ hg'.grown
  unfold delM
  by_cases e1 : q = k
  · subst e1
    rw [if_pos rfl]
    exact ⟨has_del_same, atKey_del_same _⟩
  · rw [if_neg e1, has_del_other (keyL_ne e1), atKey_del_other (keyL_ne e1)]
    exact hD q hq
/-- 'e, ok := m[k]' -/
theorem wp_look (h9 : P.underlying 9 = some .string) (hg : o.guard = none) (m x : Operand) (t e : TypeId) (hop : o.op = Op.lookup t m x true) (ht : P.underlying t = some (.map 9 e)) (hz : (zeroValue e).run P w = .ok (.agg #[.string ⟨#[]⟩, .string ⟨#[]⟩]) w) (b n : Nat) (M : Meaning)
    (hm : a.eval m = .map (some b)) (hown : MapAt P w b n M) (k : ByteArray) (hx : a.eval x = .string k) (hk : k.size ≤ maxLen)
    (hK : ∀ nm, wpList P ops Q rest (a.put o.dst (.tuple #[.agg #[.string nm, .string ((M k).getD ⟨#[]⟩)], .bool (M k).isSome])) w) : wpList P ops Q (o :: rest) a w := by
  obtain ⟨D, ho, hD⟩ := hown
  have hkey : keyOf P 9 (.string k) = some (keyL k) := WideMaps.keyOf_string_mk h9 hk
  obtain ⟨d1, d2⟩ := hD k hk
  refine wpList_lookup_own_ok w hg m x t hop 9 e (law h9) ht pairElem hz (.lit (.string [])) [] (pairElem_mk _ _) b n D hm ho _ (keyL k) hx hkey ?_
  intro v ps hv
  rw [d2] at hv
  obtain ⟨nm, y, rfl, hy⟩ := pairElem_inv hv
  obtain rfl := data_inj hy
  rw [d1]
  exact hK nm
end
end Go.Proofs.YtekbpekfomblbaaGreatDoor.tmaps
