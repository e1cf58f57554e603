/-
  DERIVED. GIVEN WITH THE SEED: THE PROGRAM's TIES (one call each: nine closed facts by the kernel) AND EACH ROW's TIE, after the 31st guide's Derived/Test/Toyas{Tie, Card}.lean. No idea stands in it: it is a product of the set-up. Laid BY PROGRAM, IN A SANDBOX (cutbox-door.mjs). By AI agents, Wed Nov 11 2026. No macro, syntax, notation, axiom, sorry.
-/
import Derived.Test.YtdpbiaomhndpcaaDoorRows
import Derived.LaidByTextLater
import Derived.SevenTiedAt
import Derived.LaidSub
import Derived.LaidOnce
namespace Go.Proofs.YtdpbiaomhndpcaaDoor
open Go
set_option maxRecDepth 100000
theorem seatTie1 : Tryd.prog.laidByTextLater [("loop.example/g00484/impl.startSpans", Rows.laid_loop_example_g00484_impl_startSpans), ("loop.example/g00484/impl.partSpans", Rows.laid_loop_example_g00484_impl_partSpans)] [.data, .data] true :=
  Program.laidByTextLater_by_one 39 8 31 (by kernel_rfl) (by kernel_rfl) (by kernel_rfl) (by kernel_rfl) (by kernel_rfl) (by kernel_rfl) (fun _ _ => by kernel_rfl)
theorem noOwnUnsafe : Tryd.pinned.checked.prog.headLifts.contains "ownunsafe" = false := by kernel_rfl
theorem tie : Tryd.prog.laidByTextLater [("loop.example/g00484/impl.startSpans", Rows.laid_loop_example_g00484_impl_startSpans), ("loop.example/g00484/impl.partSpans", Rows.laid_loop_example_g00484_impl_partSpans)] [.data, .data] true :=
  Program.laidByTextLater.sub seatTie1 ["loop.example/g00484/impl.startSpans", "loop.example/g00484/impl.partSpans"] (by kernel_rfl) (by kernel_rfl)
theorem fnExactIdsOf_row_tie : Rows.fnExactIdsOfRow.laidByTextAt .later Tryd.pinned [.data, .data] true :=
  OpenClaim.laidByTextAt_later rfl rfl tie noOwnUnsafe
theorem fnExactIdsOfUpto_row_tie : Rows.fnExactIdsOfUptoRow.laidByTextAt .later Tryd.pinned [.data, .data] true :=
  OpenClaim.laidByTextAt_later rfl rfl tie noOwnUnsafe
end Go.Proofs.YtdpbiaomhndpcaaDoor
