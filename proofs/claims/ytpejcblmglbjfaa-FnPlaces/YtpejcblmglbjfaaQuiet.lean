/-
  A region that draws its order, whose calls may make memory: walked once, in the order of the text, over the class of the worlds in which nothing that was there has turned.
-/
import Derived.WalkKit
import Derived.Below
import Derived.BigQuiet
import Derived.Deep.QuietTactic
namespace Go.Proofs.Ytpejcblmglbjfaa.quiets
open Go.RowKit
theorem wp_region_below {P : Program} {id : Nat} {Q : Exit → Act → World → Prop} {a : Act} {w : World} {l : List Oper} (hm : P.follows .mixedOrders = true) (hB : Region.lexB .any l.toArray = true)
    (h : wpQuiet P l.toArray (fun w' => Below w.heap.size w w') (fun a' => ∀ w', Below w.heap.size w w' → Q .normal a' w') l a) : (Code.region id l.toArray true).wp P Q a w :=
  wp_region_quiet (C := fun w' => Below w.heap.size w w') hm hB ((Below.refl _ _).drew) (by simpa using h)
theorem below_call {P : Program} {f : FuncId} {args : Array Value} {w w' : World} {v : Value} (h : Calls P f args w' fun e w'' => e = .returned v ∧ Below w'.heap.size w' w'') (hq : Below w.heap.size w w') : Calls P f args w' fun e w'' => e = .returned v ∧ Below w.heap.size w w'' :=
  h.mono fun _ _ ⟨he, hb⟩ => ⟨he, hq.trans (hb.mono hq.size)⟩
theorem below_same {P : Program} {f : FuncId} {args : Array Value} {w w' : World} {v : Value} (h : Calls P f args w' fun e w'' => e = .returned v ∧ w'' = w') (hq : Below w.heap.size w w') : Calls P f args w' fun e w'' => e = .returned v ∧ Below w.heap.size w w'' :=
  h.mono fun _ _ ⟨he, hb⟩ => ⟨he, by rw [hb]; exact hq⟩
end Go.Proofs.Ytpejcblmglbjfaa.quiets
