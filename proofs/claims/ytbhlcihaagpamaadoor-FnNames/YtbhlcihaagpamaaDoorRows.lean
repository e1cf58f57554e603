/-
  NARROWER THAN 'FOR EVERY INPUT', by the rows' own cells (each row's printed sentence says how): FnNames: laid · FnExactPlainOk: laid · FnExactSplitName: laid · FnExactJoinName: laid · FnExactNameAt: laid.
  DERIVED. THE GIVEN ROWS OF THIS SEAT. 5 by the template 'for every input the law returns true; each argument reads behind the call as it read before'; 0 by the template 'total and deterministic' (their statements: YtbhlcihaagpamaaDoorTotals.lean).
  GIVEN WITH THE SEED: the statements are not yours to turn. If you find one false, say at which input.
  Laid BY PROGRAM, IN A SANDBOX (cutbox-rows.mjs): the forced cells as the released guide's own fill.sh prints them over the translation b4694d106cd6e8a9… (all of the seat's roots in one cut). By AI agents, Wed Nov 11 2026. No macro, syntax, notation, axiom, sorry.
-/
import Derived.Test.YtbhlcihaagpamaaDoorChecked
import GoSem.Claim
import GoSem.ClaimJoined
import GoSem.ClaimMapViews
import Derived.JoinedTies
import Derived.KernelRfl
namespace Go.Proofs.YtbhlcihaagpamaaDoor
/- THE CELL 'sum', in the pinned program and in every row, IS THE sha256 OF THE DUMP (.gsa) THAT YtbhlcihaagpamaaDoorProg.lean LOADS. Nothing in Lean hashes anything: it is a label: what it is worth is what the hold of that sum in a sandbox is worth. -/
noncomputable def Tryd.pinned : Pinned := { name := "ytbhlcihaagpamaadoor", sum := "b4694d106cd6e8a9aa86c1dfe2fa9de7a24f68861e413b6a8148adafa35029d7", checked := Tryd.checked }
namespace Rows
def none {H : Type} : Left H := { results := [], args := [] }

/- WHAT THE LISTED PACKAGE-LEVEL VARIABLES READ AS WHEN THE CALL BEGINS. Each datum BY PROGRAM (the guide's laid-datum.mjs) off the statement by which the dump's own 'gosem.cut.vars' lays the variable. In a bare row this is a premise. The card (YtbhlcihaagpamaaDoorCards.lean) ties it to the program's text. -/
def laid_loop_example_g00484_impl_startSpans {H : Type} : DataW H := .slice [.agg [.lit (.int .i64 65), .lit (.int .i64 90)], .agg [.lit (.int .i64 95), .lit (.int .i64 95)], .agg [.lit (.int .i64 97), .lit (.int .i64 122)], .agg [.lit (.int .i64 192), .lit (.int .i64 214)], .agg [.lit (.int .i64 216), .lit (.int .i64 246)], .agg [.lit (.int .i64 248), .lit (.int .i64 767)], .agg [.lit (.int .i64 880), .lit (.int .i64 893)], .agg [.lit (.int .i64 895), .lit (.int .i64 8191)], .agg [.lit (.int .i64 8204), .lit (.int .i64 8205)], .agg [.lit (.int .i64 8304), .lit (.int .i64 8591)], .agg [.lit (.int .i64 11264), .lit (.int .i64 12271)], .agg [.lit (.int .i64 12289), .lit (.int .i64 55295)], .agg [.lit (.int .i64 63744), .lit (.int .i64 64975)], .agg [.lit (.int .i64 65008), .lit (.int .i64 65533)], .agg [.lit (.int .i64 65536), .lit (.int .i64 983039)]] []
def laid_loop_example_g00484_impl_partSpans {H : Type} : DataW H := .slice [.agg [.lit (.int .i64 45), .lit (.int .i64 46)], .agg [.lit (.int .i64 48), .lit (.int .i64 57)], .agg [.lit (.int .i64 183), .lit (.int .i64 183)], .agg [.lit (.int .i64 768), .lit (.int .i64 879)], .agg [.lit (.int .i64 8255), .lit (.int .i64 8256)]] []

/-- 'laws.FnNames': WHATEVER THE INPUT: true; the input reads as it did. -/
def fnNamesSpec : ChangeSpec := { name := "fnNames", vars := ["loop.example/g00484/impl.startSpans", "loop.example/g00484/impl.partSpans"], fn := fun _ => fun
  | [d, g1, g2] => { results := [.lit (.bool true)], args := [d], vars := [g1, g2] }
  | _ => none }
def fnNamesRow : OpenClaim := { program := "ytbhlcihaagpamaadoor", sum := "b4694d106cd6e8a9aa86c1dfe2fa9de7a24f68861e413b6a8148adafa35029d7", func := "loop.example/g00484/laws.FnNames", spec := "fnNames", inPlace := ["internal/bytealg.IndexByteString"], unfollowed := true, recurses := true, named := ["loop.example/g00484/impl.startSpans", "loop.example/g00484/impl.partSpans"], apart := false, laid := [("loop.example/g00484/impl.startSpans", laid_loop_example_g00484_impl_startSpans), ("loop.example/g00484/impl.partSpans", laid_loop_example_g00484_impl_partSpans)] }
def FnNamesSaid : Prop := fnNamesRow.holds Tryd.pinned (OpenSpec.ofChange fnNamesSpec)

/-- ITS FALSE NEIGHBOUR: 'it returns false'. Refute it at one input. -/
def fnNamesWrong : ChangeSpec := { name := "fnNames", vars := ["loop.example/g00484/impl.startSpans", "loop.example/g00484/impl.partSpans"], fn := fun _ => fun
  | [d, g1, g2] => { results := [.lit (.bool false)], args := [d], vars := [g1, g2] }
  | _ => none }
def FnNamesWrongFalsely : Prop := fnNamesRow.holds Tryd.pinned (OpenSpec.ofChange fnNamesWrong)

/-- 'laws.FnExactPlainOk': WHATEVER THE INPUT: true; the input reads as it did. -/
def fnExactPlainOkSpec : ChangeSpec := { name := "fnExactPlainOk", vars := ["loop.example/g00484/impl.startSpans", "loop.example/g00484/impl.partSpans"], fn := fun _ => fun
  | [d, g1, g2] => { results := [.lit (.bool true)], args := [d], vars := [g1, g2] }
  | _ => none }
def fnExactPlainOkRow : OpenClaim := { program := "ytbhlcihaagpamaadoor", sum := "b4694d106cd6e8a9aa86c1dfe2fa9de7a24f68861e413b6a8148adafa35029d7", func := "loop.example/g00484/laws.FnExactPlainOk", spec := "fnExactPlainOk", unfollowed := true, recurses := true, named := ["loop.example/g00484/impl.startSpans", "loop.example/g00484/impl.partSpans"], apart := false, laid := [("loop.example/g00484/impl.startSpans", laid_loop_example_g00484_impl_startSpans), ("loop.example/g00484/impl.partSpans", laid_loop_example_g00484_impl_partSpans)] }
def FnExactPlainOkSaid : Prop := fnExactPlainOkRow.holds Tryd.pinned (OpenSpec.ofChange fnExactPlainOkSpec)

/-- ITS FALSE NEIGHBOUR: 'it returns false'. Refute it at one input. -/
def fnExactPlainOkWrong : ChangeSpec := { name := "fnExactPlainOk", vars := ["loop.example/g00484/impl.startSpans", "loop.example/g00484/impl.partSpans"], fn := fun _ => fun
  | [d, g1, g2] => { results := [.lit (.bool false)], args := [d], vars := [g1, g2] }
  | _ => none }
def FnExactPlainOkWrongFalsely : Prop := fnExactPlainOkRow.holds Tryd.pinned (OpenSpec.ofChange fnExactPlainOkWrong)

/-- 'laws.FnExactSplitName': WHATEVER THE INPUT: true; the input reads as it did. -/
def fnExactSplitNameSpec : ChangeSpec := { name := "fnExactSplitName", vars := ["loop.example/g00484/impl.startSpans", "loop.example/g00484/impl.partSpans"], fn := fun _ => fun
  | [d, g1, g2] => { results := [.lit (.bool true)], args := [d], vars := [g1, g2] }
  | _ => none }
def fnExactSplitNameRow : OpenClaim := { program := "ytbhlcihaagpamaadoor", sum := "b4694d106cd6e8a9aa86c1dfe2fa9de7a24f68861e413b6a8148adafa35029d7", func := "loop.example/g00484/laws.FnExactSplitName", spec := "fnExactSplitName", inPlace := ["internal/bytealg.IndexByteString"], unfollowed := true, recurses := true, named := ["loop.example/g00484/impl.startSpans", "loop.example/g00484/impl.partSpans"], apart := false, laid := [("loop.example/g00484/impl.startSpans", laid_loop_example_g00484_impl_startSpans), ("loop.example/g00484/impl.partSpans", laid_loop_example_g00484_impl_partSpans)] }
def FnExactSplitNameSaid : Prop := fnExactSplitNameRow.holds Tryd.pinned (OpenSpec.ofChange fnExactSplitNameSpec)

/-- ITS FALSE NEIGHBOUR: 'it returns false'. Refute it at one input. -/
def fnExactSplitNameWrong : ChangeSpec := { name := "fnExactSplitName", vars := ["loop.example/g00484/impl.startSpans", "loop.example/g00484/impl.partSpans"], fn := fun _ => fun
  | [d, g1, g2] => { results := [.lit (.bool false)], args := [d], vars := [g1, g2] }
  | _ => none }
def FnExactSplitNameWrongFalsely : Prop := fnExactSplitNameRow.holds Tryd.pinned (OpenSpec.ofChange fnExactSplitNameWrong)

/-- 'laws.FnExactJoinName': WHATEVER THE INPUT: true; the input reads as it did. -/
def fnExactJoinNameSpec : ChangeSpec := { name := "fnExactJoinName", vars := ["loop.example/g00484/impl.startSpans", "loop.example/g00484/impl.partSpans"], fn := fun _ => fun
  | [d1, d2, g1, g2] => { results := [.lit (.bool true)], args := [d1, d2], vars := [g1, g2] }
  | _ => none }
def fnExactJoinNameRow : OpenClaim := { program := "ytbhlcihaagpamaadoor", sum := "b4694d106cd6e8a9aa86c1dfe2fa9de7a24f68861e413b6a8148adafa35029d7", func := "loop.example/g00484/laws.FnExactJoinName", spec := "fnExactJoinName", inPlace := ["internal/bytealg.IndexByteString"], unfollowed := true, recurses := true, named := ["loop.example/g00484/impl.startSpans", "loop.example/g00484/impl.partSpans"], apart := false, laid := [("loop.example/g00484/impl.startSpans", laid_loop_example_g00484_impl_startSpans), ("loop.example/g00484/impl.partSpans", laid_loop_example_g00484_impl_partSpans)] }
def FnExactJoinNameSaid : Prop := fnExactJoinNameRow.holds Tryd.pinned (OpenSpec.ofChange fnExactJoinNameSpec)

/-- ITS FALSE NEIGHBOUR: 'it returns false'. Refute it at one input. -/
def fnExactJoinNameWrong : ChangeSpec := { name := "fnExactJoinName", vars := ["loop.example/g00484/impl.startSpans", "loop.example/g00484/impl.partSpans"], fn := fun _ => fun
  | [d1, d2, g1, g2] => { results := [.lit (.bool false)], args := [d1, d2], vars := [g1, g2] }
  | _ => none }
def FnExactJoinNameWrongFalsely : Prop := fnExactJoinNameRow.holds Tryd.pinned (OpenSpec.ofChange fnExactJoinNameWrong)

/-- 'laws.FnExactNameAt': WHATEVER THE INPUT: true; the input reads as it did. -/
def fnExactNameAtSpec : ChangeSpec := { name := "fnExactNameAt", vars := ["loop.example/g00484/impl.partSpans", "loop.example/g00484/impl.startSpans"], fn := fun _ => fun
  | [d1, d2, g1, g2] => { results := [.lit (.bool true)], args := [d1, d2], vars := [g1, g2] }
  | _ => none }
def fnExactNameAtRow : OpenClaim := { program := "ytbhlcihaagpamaadoor", sum := "b4694d106cd6e8a9aa86c1dfe2fa9de7a24f68861e413b6a8148adafa35029d7", func := "loop.example/g00484/laws.FnExactNameAt", spec := "fnExactNameAt", unfollowed := true, recurses := true, named := ["loop.example/g00484/impl.partSpans", "loop.example/g00484/impl.startSpans"], apart := false, laid := [("loop.example/g00484/impl.startSpans", laid_loop_example_g00484_impl_startSpans), ("loop.example/g00484/impl.partSpans", laid_loop_example_g00484_impl_partSpans)] }
def FnExactNameAtSaid : Prop := fnExactNameAtRow.holds Tryd.pinned (OpenSpec.ofChange fnExactNameAtSpec)

/-- ITS FALSE NEIGHBOUR: 'it returns false'. Refute it at one input. -/
def fnExactNameAtWrong : ChangeSpec := { name := "fnExactNameAt", vars := ["loop.example/g00484/impl.partSpans", "loop.example/g00484/impl.startSpans"], fn := fun _ => fun
  | [d1, d2, g1, g2] => { results := [.lit (.bool false)], args := [d1, d2], vars := [g1, g2] }
  | _ => none }
def FnExactNameAtWrongFalsely : Prop := fnExactNameAtRow.holds Tryd.pinned (OpenSpec.ofChange fnExactNameAtWrong)

/- THE SECOND FORM. 'bulk': how many values and letters a reading holds, each counted each time it is reached (what is shared counts as often as it is met; a slice's spare places count too). A statement '..UptoSaid' is the law's where the arguments, and the package variables that the reading takes, are together of bulk at most 1048576: NARROWER than '..Said'. Prove '..Said' where nothing that the law and all that it calls make is longer than what came in: it says more and counts as full. Else prove '..UptoSaid'. A law counts once. -/
mutual
def uptoBulk {H : Type} : DataW H → Nat
  | .lit (.string bytes) => bytes.length + 1
  | .lit _ => 1
  | .nil => 1
  | .ptr d => uptoBulk d + 1
  | .slice elems spare => uptoBulkAll elems + uptoBulkAll spare + 1
  | .agg parts => uptoBulkAll parts + 1
  | .iface _ d => uptoBulk d + 1
  | .map entries => uptoBulkEntries entries + 1
  | .held _ => 1
def uptoBulkAll {H : Type} : List (DataW H) → Nat
  | [] => 0
  | d :: r => uptoBulk d + uptoBulkAll r
def uptoBulkEntries {H : Type} : List (Lit × DataW H) → Nat
  | [] => 0
  | x :: r => uptoBulkEntry x + uptoBulkEntries r
def uptoBulkEntry {H : Type} : Lit × DataW H → Nat
  | (.string bytes, d) => bytes.length + uptoBulk d + 1
  | (_, d) => uptoBulk d + 1
 end
def uptoSmall : (H : Type) → List (DataW H) → Bool := fun _ ds => decide (uptoBulkAll ds ≤ 1048576)
def OpenSpec.upto (s : _root_.Go.ChangeSpec) : _root_.Go.OpenSpec := { _root_.Go.OpenSpec.ofChange s with cond := some uptoSmall }

/-- 'laws.FnNames', WHERE WHAT IT READS IS OF BULK AT MOST 1048576: true; the input reads as it did. -/
def fnNamesUptoRow : OpenClaim := { program := "ytbhlcihaagpamaadoor", sum := "b4694d106cd6e8a9aa86c1dfe2fa9de7a24f68861e413b6a8148adafa35029d7", func := "loop.example/g00484/laws.FnNames", spec := "fnNames", inPlace := ["internal/bytealg.IndexByteString"], unfollowed := true, recurses := true, named := ["loop.example/g00484/impl.startSpans", "loop.example/g00484/impl.partSpans"], apart := false, laid := [("loop.example/g00484/impl.startSpans", laid_loop_example_g00484_impl_startSpans), ("loop.example/g00484/impl.partSpans", laid_loop_example_g00484_impl_partSpans)], narrowed := true }
def FnNamesUptoSaid : Prop := fnNamesUptoRow.holds Tryd.pinned (OpenSpec.upto fnNamesSpec)

/-- 'laws.FnExactPlainOk', WHERE WHAT IT READS IS OF BULK AT MOST 1048576: true; the input reads as it did. -/
def fnExactPlainOkUptoRow : OpenClaim := { program := "ytbhlcihaagpamaadoor", sum := "b4694d106cd6e8a9aa86c1dfe2fa9de7a24f68861e413b6a8148adafa35029d7", func := "loop.example/g00484/laws.FnExactPlainOk", spec := "fnExactPlainOk", unfollowed := true, recurses := true, named := ["loop.example/g00484/impl.startSpans", "loop.example/g00484/impl.partSpans"], apart := false, laid := [("loop.example/g00484/impl.startSpans", laid_loop_example_g00484_impl_startSpans), ("loop.example/g00484/impl.partSpans", laid_loop_example_g00484_impl_partSpans)], narrowed := true }
def FnExactPlainOkUptoSaid : Prop := fnExactPlainOkUptoRow.holds Tryd.pinned (OpenSpec.upto fnExactPlainOkSpec)

/-- 'laws.FnExactSplitName', WHERE WHAT IT READS IS OF BULK AT MOST 1048576: true; the input reads as it did. -/
def fnExactSplitNameUptoRow : OpenClaim := { program := "ytbhlcihaagpamaadoor", sum := "b4694d106cd6e8a9aa86c1dfe2fa9de7a24f68861e413b6a8148adafa35029d7", func := "loop.example/g00484/laws.FnExactSplitName", spec := "fnExactSplitName", inPlace := ["internal/bytealg.IndexByteString"], unfollowed := true, recurses := true, named := ["loop.example/g00484/impl.startSpans", "loop.example/g00484/impl.partSpans"], apart := false, laid := [("loop.example/g00484/impl.startSpans", laid_loop_example_g00484_impl_startSpans), ("loop.example/g00484/impl.partSpans", laid_loop_example_g00484_impl_partSpans)], narrowed := true }
def FnExactSplitNameUptoSaid : Prop := fnExactSplitNameUptoRow.holds Tryd.pinned (OpenSpec.upto fnExactSplitNameSpec)

/-- 'laws.FnExactJoinName', WHERE WHAT IT READS IS OF BULK AT MOST 1048576: true; the input reads as it did. -/
def fnExactJoinNameUptoRow : OpenClaim := { program := "ytbhlcihaagpamaadoor", sum := "b4694d106cd6e8a9aa86c1dfe2fa9de7a24f68861e413b6a8148adafa35029d7", func := "loop.example/g00484/laws.FnExactJoinName", spec := "fnExactJoinName", inPlace := ["internal/bytealg.IndexByteString"], unfollowed := true, recurses := true, named := ["loop.example/g00484/impl.startSpans", "loop.example/g00484/impl.partSpans"], apart := false, laid := [("loop.example/g00484/impl.startSpans", laid_loop_example_g00484_impl_startSpans), ("loop.example/g00484/impl.partSpans", laid_loop_example_g00484_impl_partSpans)], narrowed := true }
def FnExactJoinNameUptoSaid : Prop := fnExactJoinNameUptoRow.holds Tryd.pinned (OpenSpec.upto fnExactJoinNameSpec)

/-- 'laws.FnExactNameAt', WHERE WHAT IT READS IS OF BULK AT MOST 1048576: true; the input reads as it did. -/
def fnExactNameAtUptoRow : OpenClaim := { program := "ytbhlcihaagpamaadoor", sum := "b4694d106cd6e8a9aa86c1dfe2fa9de7a24f68861e413b6a8148adafa35029d7", func := "loop.example/g00484/laws.FnExactNameAt", spec := "fnExactNameAt", unfollowed := true, recurses := true, named := ["loop.example/g00484/impl.partSpans", "loop.example/g00484/impl.startSpans"], apart := false, laid := [("loop.example/g00484/impl.startSpans", laid_loop_example_g00484_impl_startSpans), ("loop.example/g00484/impl.partSpans", laid_loop_example_g00484_impl_partSpans)], narrowed := true }
def FnExactNameAtUptoSaid : Prop := fnExactNameAtUptoRow.holds Tryd.pinned (OpenSpec.upto fnExactNameAtSpec)

end Rows
end Go.Proofs.YtbhlcihaagpamaaDoor
