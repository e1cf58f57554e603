/-
  DERIVED. GIVEN WITH THE SEED: THE PROGRAM's TIES (one call each: nine closed facts by the kernel) AND EACH ROW's TIE, after the 31st guide's Derived/Test/Toyas{Tie, Card}.lean. No idea stands in it: it is a product of the set-up. Laid BY PROGRAM, IN A SANDBOX (cutbox-door.mjs). By AI agents, Wed Nov 11 2026. No macro, syntax, notation, axiom, sorry.
-/
import Derived.Test.YtlkolhfhcicpdahDoorRows
import Derived.LaidByTextLater
import Derived.SevenTiedAt
import Derived.LaidSub
import Derived.LaidOnce
namespace Go.Proofs.YtlkolhfhcicpdahDoor
open Go
set_option maxRecDepth 100000
theorem seatTie1 : Tryd.prog.laidByTextLater [("loop.example/g00484/impl.signSpans", Rows.laid_loop_example_g00484_impl_signSpans), ("loop.example/g00484/impl.startSpans", Rows.laid_loop_example_g00484_impl_startSpans), ("loop.example/g00484/impl.partSpans", Rows.laid_loop_example_g00484_impl_partSpans)] [.data, .data, .data] true :=
  Program.laidByTextLater_by_one 49 8 31 (by kernel_rfl) (by kernel_rfl) (by kernel_rfl) (by kernel_rfl) (by kernel_rfl) (by kernel_rfl) (fun _ _ => by kernel_rfl)
theorem noOwnUnsafe : Tryd.pinned.checked.prog.headLifts.contains "ownunsafe" = false := by kernel_rfl
theorem tie : Tryd.prog.laidByTextLater [("loop.example/g00484/impl.signSpans", Rows.laid_loop_example_g00484_impl_signSpans)] [.data] true :=
  Program.laidByTextLater.sub seatTie1 ["loop.example/g00484/impl.signSpans"] (by kernel_rfl) (by kernel_rfl)
theorem fnExactIsSign_row_tie : Rows.fnExactIsSignRow.laidByTextAt .later Tryd.pinned [.data] true :=
  OpenClaim.laidByTextAt_later rfl rfl tie noOwnUnsafe
theorem tie2 : Tryd.prog.laidByTextLater [("loop.example/g00484/impl.startSpans", Rows.laid_loop_example_g00484_impl_startSpans)] [.data] true :=
  Program.laidByTextLater.sub seatTie1 ["loop.example/g00484/impl.startSpans"] (by kernel_rfl) (by kernel_rfl)
theorem fnExactIsStart_row_tie : Rows.fnExactIsStartRow.laidByTextAt .later Tryd.pinned [.data] true :=
  OpenClaim.laidByTextAt_later rfl rfl tie2 noOwnUnsafe
theorem tie3 : Tryd.prog.laidByTextLater [("loop.example/g00484/impl.startSpans", Rows.laid_loop_example_g00484_impl_startSpans), ("loop.example/g00484/impl.partSpans", Rows.laid_loop_example_g00484_impl_partSpans)] [.data, .data] true :=
  Program.laidByTextLater.sub seatTie1 ["loop.example/g00484/impl.startSpans", "loop.example/g00484/impl.partSpans"] (by kernel_rfl) (by kernel_rfl)
theorem fnExactIsPart_row_tie : Rows.fnExactIsPartRow.laidByTextAt .later Tryd.pinned [.data, .data] true :=
  OpenClaim.laidByTextAt_later rfl rfl tie3 noOwnUnsafe
theorem fnExactIsSignUpto_row_tie : Rows.fnExactIsSignUptoRow.laidByTextAt .later Tryd.pinned [.data] true :=
  OpenClaim.laidByTextAt_later rfl rfl tie noOwnUnsafe
theorem fnExactIsStartUpto_row_tie : Rows.fnExactIsStartUptoRow.laidByTextAt .later Tryd.pinned [.data] true :=
  OpenClaim.laidByTextAt_later rfl rfl tie2 noOwnUnsafe
theorem fnExactIsPartUpto_row_tie : Rows.fnExactIsPartUptoRow.laidByTextAt .later Tryd.pinned [.data, .data] true :=
  OpenClaim.laidByTextAt_later rfl rfl tie3 noOwnUnsafe
end Go.Proofs.YtlkolhfhcicpdahDoor
