/-
  The laws' helpers on nodes, a node being written out.
-/
import Derived.Test.YtdhofcnpkfhoiaaGreatDoorNodeTo
import Derived.Test.YtdhofcnpkfhoiaaGreatDoorNodeEq
import Derived.Deep.RegionWith
namespace Go.Proofs.YtdhofcnpkfhoiaaGreatDoor.trees
open Go.ChangeShapes Go.WideShapes Go.ChangeAt Go.RowKit
open pairs (Pair at0 PairsAt)
set_option linter.unusedVariables false
theorem sz_flat {k : Int} {p l u x : ByteArray} {ds : List Pair} {ats : List Att} {ks : List Tree} {da : Option Addr} {dc : Nat} {aa : Option Addr} {ac : Nat} {ka : Option Addr} {kc : Nat} {w : World} {B left : Nat} (hl : left ≤ 1048576) (hn : NodeAt w B (.mk k p l u x ds ats ks) ⟨da, dc, aa, ac, ka, kc⟩) : Calls Tryz.prog 29 #[.agg #[.int .i64 k, .string p, .string l, .string u, .slice da ds.length dc, .slice aa ats.length ac, .slice ka ks.length kc, .string x], .int .i64 left] w fun e w' => (∃ r : Int, e = .returned (.int .i64 r) ∧ (0 ≤ r → r = (left : Int) - nsz (.mk k p l u x ds ats ks))) ∧ Below w.heap.size w w' :=
  sz_node B _ (.mk k p l u x ds ats ks) ⟨da, dc, aa, ac, ka, kc⟩ w left (Nat.lt_succ_self _) hl hn.node
theorem to_flat {k : Int} {p l u x : ByteArray} {ds : List Pair} {ats : List Att} {ks : List Tree} {da : Option Addr} {dc : Nat} {aa : Option Addr} {ac : Nat} {ka : Option Addr} {kc : Nat} {w : World} {B : Nat} (hz : nsz (.mk k p l u x ds ats ks) ≤ 1048576) (hn : NodeAt w B (.mk k p l u x ds ats ks) ⟨da, dc, aa, ac, ka, kc⟩) : Calls Tryz.prog 30 #[.agg #[.int .i64 k, .string p, .string l, .string u, .slice da ds.length dc, .slice aa ats.length ac, .slice ka ks.length kc, .string x]] w fun e w' => (∃ da' dc' aa' ac' ka' kc', e = .returned (.agg #[.int .i64 k, .string p, .string l, .string u, .slice da' ds.length dc', .slice aa' ats.length ac', .slice ka' ks.length kc', .string x]) ∧ NodeAt w' w.heap.size (.mk k p l u x ds ats ks) ⟨da', dc', aa', ac', ka', kc'⟩) ∧ Below w.heap.size w w' :=
  Calls.mono (to_node B _ (.mk k p l u x ds ats ks) ⟨da, dc, aa, ac, ka, kc⟩ w (Nat.lt_succ_self _) hz hn.node) fun e w' ⟨⟨⟨a1, a2, a3, a4, a5, a6⟩, he, hn'⟩, hb⟩ => ⟨⟨a1, a2, a3, a4, a5, a6, he, ⟨hn'⟩⟩, hb⟩
theorem eq_flat {k : Int} {p l u x : ByteArray} {ds : List Pair} {ats : List Att} {ks : List Tree} {da : Option Addr} {dc : Nat} {aa : Option Addr} {ac : Nat} {ka : Option Addr} {kc : Nat} {da' : Option Addr} {dc' : Nat} {aa' : Option Addr} {ac' : Nat} {ka' : Option Addr} {kc' : Nat} {w : World} {B B' : Nat} (hn : NodeAt w B (.mk k p l u x ds ats ks) ⟨da, dc, aa, ac, ka, kc⟩) (hn' : NodeAt w B' (.mk k p l u x ds ats ks) ⟨da', dc', aa', ac', ka', kc'⟩) : Calls Tryz.prog 31 #[.agg #[.int .i64 k, .string p, .string l, .string u, .slice da ds.length dc, .slice aa ats.length ac, .slice ka ks.length kc, .string x], .agg #[.int .i64 k, .string p, .string l, .string u, .slice da' ds.length dc', .slice aa' ats.length ac', .slice ka' ks.length kc', .string x]] w fun e w' => e = .returned (.bool true) ∧ Below w.heap.size w w' :=
  eq_node B B' _ (.mk k p l u x ds ats ks) ⟨da, dc, aa, ac, ka, kc⟩ ⟨da', dc', aa', ac', ka', kc'⟩ w (Nat.lt_succ_self _) hn.node hn'.node
end Go.Proofs.YtdhofcnpkfhoiaaGreatDoor.trees
