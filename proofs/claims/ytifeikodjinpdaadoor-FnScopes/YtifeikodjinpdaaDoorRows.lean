/-
  NARROWER THAN 'FOR EVERY INPUT', by the rows' own cells (each row's printed sentence says how): FnScopes: laid · FnExactDeclOk: laid · FnExactDeclsOk: laid.
  DERIVED. THE GIVEN ROWS OF THIS SEAT. 3 by the template 'for every input the law returns true; each argument reads behind the call as it read before'; 0 by the template 'total and deterministic' (their statements: YtifeikodjinpdaaDoorTotals.lean).
  GIVEN WITH THE SEED: the statements are not yours to turn. If you find one false, say at which input.
  Laid BY PROGRAM, IN A SANDBOX (cutbox-rows.mjs): the forced cells as the released guide's own fill.sh prints them over the translation e025dc03330bb907… (all of the seat's roots in one cut). By AI agents, Wed Nov 11 2026. No macro, syntax, notation, axiom, sorry.
-/
import Derived.Test.YtifeikodjinpdaaDoorChecked
import GoSem.PinnedTables
import GoSem.Claim
import GoSem.ClaimJoined
import GoSem.ClaimMapViews
import Derived.JoinedTies
import Derived.KernelRfl
namespace Go.Proofs.YtifeikodjinpdaaDoor
/- THE CELL 'sum', in the pinned program and in every row, IS THE sha256 OF THE DUMP (.gsa) THAT YtifeikodjinpdaaDoorProg.lean LOADS. Nothing in Lean hashes anything: it is a label: what it is worth is what the hold of that sum in a sandbox is worth. -/
noncomputable def Tryd.pinned : Pinned := { name := "ytifeikodjinpdaadoor", sum := "e025dc03330bb9072ae1dd148244fd1c3898e39210a5f4caac48e2b22f7a74ec", checked := Tryd.checked }
namespace Rows
def none {H : Type} : Left H := { results := [], args := [] }

/- WHAT THE LISTED PACKAGE-LEVEL VARIABLES READ AS WHEN THE CALL BEGINS. Each datum BY PROGRAM (the guide's laid-datum.mjs) off the statement by which the dump's own 'gosem.cut.vars' lays the variable. In a bare row this is a premise. The card (YtifeikodjinpdaaDoorCards.lean) ties it to the program's text. -/
def laid_unicode_utf8_acceptRanges {H : Type} : DataW H := .agg [.agg [.lit (.int .u8 128), .lit (.int .u8 191)], .agg [.lit (.int .u8 160), .lit (.int .u8 191)], .agg [.lit (.int .u8 128), .lit (.int .u8 159)], .agg [.lit (.int .u8 144), .lit (.int .u8 191)], .agg [.lit (.int .u8 128), .lit (.int .u8 143)], .agg [.lit (.int .u8 0), .lit (.int .u8 0)], .agg [.lit (.int .u8 0), .lit (.int .u8 0)], .agg [.lit (.int .u8 0), .lit (.int .u8 0)], .agg [.lit (.int .u8 0), .lit (.int .u8 0)], .agg [.lit (.int .u8 0), .lit (.int .u8 0)], .agg [.lit (.int .u8 0), .lit (.int .u8 0)], .agg [.lit (.int .u8 0), .lit (.int .u8 0)], .agg [.lit (.int .u8 0), .lit (.int .u8 0)], .agg [.lit (.int .u8 0), .lit (.int .u8 0)], .agg [.lit (.int .u8 0), .lit (.int .u8 0)], .agg [.lit (.int .u8 0), .lit (.int .u8 0)]]
def laid_loop_example_g00484_impl_signSpans {H : Type} : DataW H := .slice [.agg [.lit (.int .i64 9), .lit (.int .i64 10)], .agg [.lit (.int .i64 13), .lit (.int .i64 13)], .agg [.lit (.int .i64 32), .lit (.int .i64 55295)], .agg [.lit (.int .i64 57344), .lit (.int .i64 65533)], .agg [.lit (.int .i64 65536), .lit (.int .i64 1114111)]] []
def laid_loop_example_g00484_impl_startSpans {H : Type} : DataW H := .slice [.agg [.lit (.int .i64 65), .lit (.int .i64 90)], .agg [.lit (.int .i64 95), .lit (.int .i64 95)], .agg [.lit (.int .i64 97), .lit (.int .i64 122)], .agg [.lit (.int .i64 192), .lit (.int .i64 214)], .agg [.lit (.int .i64 216), .lit (.int .i64 246)], .agg [.lit (.int .i64 248), .lit (.int .i64 767)], .agg [.lit (.int .i64 880), .lit (.int .i64 893)], .agg [.lit (.int .i64 895), .lit (.int .i64 8191)], .agg [.lit (.int .i64 8204), .lit (.int .i64 8205)], .agg [.lit (.int .i64 8304), .lit (.int .i64 8591)], .agg [.lit (.int .i64 11264), .lit (.int .i64 12271)], .agg [.lit (.int .i64 12289), .lit (.int .i64 55295)], .agg [.lit (.int .i64 63744), .lit (.int .i64 64975)], .agg [.lit (.int .i64 65008), .lit (.int .i64 65533)], .agg [.lit (.int .i64 65536), .lit (.int .i64 983039)]] []
def laid_loop_example_g00484_impl_partSpans {H : Type} : DataW H := .slice [.agg [.lit (.int .i64 45), .lit (.int .i64 46)], .agg [.lit (.int .i64 48), .lit (.int .i64 57)], .agg [.lit (.int .i64 183), .lit (.int .i64 183)], .agg [.lit (.int .i64 768), .lit (.int .i64 879)], .agg [.lit (.int .i64 8255), .lit (.int .i64 8256)]] []
/-- One of Go's own tables, pinned by name: the form's constant. -/
def laid_unicode_utf8_first : DataW Unit := Go.Pinned.utf8First

/-- 'laws.FnScopes': WHATEVER THE INPUT: true; the input reads as it did. -/
def fnScopesSpec : ChangeSpec := { name := "fnScopes", vars := ["loop.example/g00484/impl.startSpans", "loop.example/g00484/impl.partSpans", "loop.example/g00484/impl.signSpans"], fn := fun _ => fun
  | [d, g1, g2, g3] => { results := [.lit (.bool true)], args := [d], vars := [g1, g2, g3] }
  | _ => none }
def fnScopesRow : OpenClaim := { program := "ytifeikodjinpdaadoor", sum := "e025dc03330bb9072ae1dd148244fd1c3898e39210a5f4caac48e2b22f7a74ec", func := "loop.example/g00484/laws.FnScopes", spec := "fnScopes", unfollowed := true, recurses := true, named := ["loop.example/g00484/impl.startSpans", "loop.example/g00484/impl.partSpans", "unicode/utf8.first", "unicode/utf8.acceptRanges", "loop.example/g00484/impl.signSpans"], apart := false, laid := [("unicode/utf8.acceptRanges", laid_unicode_utf8_acceptRanges), ("loop.example/g00484/impl.signSpans", laid_loop_example_g00484_impl_signSpans), ("loop.example/g00484/impl.startSpans", laid_loop_example_g00484_impl_startSpans), ("loop.example/g00484/impl.partSpans", laid_loop_example_g00484_impl_partSpans), ("unicode/utf8.first", laid_unicode_utf8_first)] }
def FnScopesSaid : Prop := fnScopesRow.holds Tryd.pinned (OpenSpec.ofChange fnScopesSpec)

/-- ITS FALSE NEIGHBOUR: 'it returns false'. Refute it at one input. -/
def fnScopesWrong : ChangeSpec := { name := "fnScopes", vars := ["loop.example/g00484/impl.startSpans", "loop.example/g00484/impl.partSpans", "loop.example/g00484/impl.signSpans"], fn := fun _ => fun
  | [d, g1, g2, g3] => { results := [.lit (.bool false)], args := [d], vars := [g1, g2, g3] }
  | _ => none }
def FnScopesWrongFalsely : Prop := fnScopesRow.holds Tryd.pinned (OpenSpec.ofChange fnScopesWrong)

/-- 'laws.FnExactDeclOk': WHATEVER THE INPUT: true; the input reads as it did. -/
def fnExactDeclOkSpec : ChangeSpec := { name := "fnExactDeclOk", vars := ["loop.example/g00484/impl.startSpans", "loop.example/g00484/impl.partSpans", "loop.example/g00484/impl.signSpans"], fn := fun _ => fun
  | [d, g1, g2, g3] => { results := [.lit (.bool true)], args := [d], vars := [g1, g2, g3] }
  | _ => none }
def fnExactDeclOkRow : OpenClaim := { program := "ytifeikodjinpdaadoor", sum := "e025dc03330bb9072ae1dd148244fd1c3898e39210a5f4caac48e2b22f7a74ec", func := "loop.example/g00484/laws.FnExactDeclOk", spec := "fnExactDeclOk", unfollowed := true, recurses := true, named := ["loop.example/g00484/impl.startSpans", "loop.example/g00484/impl.partSpans", "unicode/utf8.first", "unicode/utf8.acceptRanges", "loop.example/g00484/impl.signSpans"], apart := false, laid := [("unicode/utf8.acceptRanges", laid_unicode_utf8_acceptRanges), ("loop.example/g00484/impl.signSpans", laid_loop_example_g00484_impl_signSpans), ("loop.example/g00484/impl.startSpans", laid_loop_example_g00484_impl_startSpans), ("loop.example/g00484/impl.partSpans", laid_loop_example_g00484_impl_partSpans), ("unicode/utf8.first", laid_unicode_utf8_first)] }
def FnExactDeclOkSaid : Prop := fnExactDeclOkRow.holds Tryd.pinned (OpenSpec.ofChange fnExactDeclOkSpec)

/-- ITS FALSE NEIGHBOUR: 'it returns false'. Refute it at one input. -/
def fnExactDeclOkWrong : ChangeSpec := { name := "fnExactDeclOk", vars := ["loop.example/g00484/impl.startSpans", "loop.example/g00484/impl.partSpans", "loop.example/g00484/impl.signSpans"], fn := fun _ => fun
  | [d, g1, g2, g3] => { results := [.lit (.bool false)], args := [d], vars := [g1, g2, g3] }
  | _ => none }
def FnExactDeclOkWrongFalsely : Prop := fnExactDeclOkRow.holds Tryd.pinned (OpenSpec.ofChange fnExactDeclOkWrong)

/-- 'laws.FnExactDeclsOk': WHATEVER THE INPUT: true; the input reads as it did. -/
def fnExactDeclsOkSpec : ChangeSpec := { name := "fnExactDeclsOk", vars := ["loop.example/g00484/impl.startSpans", "loop.example/g00484/impl.partSpans", "loop.example/g00484/impl.signSpans"], fn := fun _ => fun
  | [d, g1, g2, g3] => { results := [.lit (.bool true)], args := [d], vars := [g1, g2, g3] }
  | _ => none }
def fnExactDeclsOkRow : OpenClaim := { program := "ytifeikodjinpdaadoor", sum := "e025dc03330bb9072ae1dd148244fd1c3898e39210a5f4caac48e2b22f7a74ec", func := "loop.example/g00484/laws.FnExactDeclsOk", spec := "fnExactDeclsOk", unfollowed := true, recurses := true, named := ["loop.example/g00484/impl.startSpans", "loop.example/g00484/impl.partSpans", "unicode/utf8.first", "unicode/utf8.acceptRanges", "loop.example/g00484/impl.signSpans"], apart := false, laid := [("unicode/utf8.acceptRanges", laid_unicode_utf8_acceptRanges), ("loop.example/g00484/impl.signSpans", laid_loop_example_g00484_impl_signSpans), ("loop.example/g00484/impl.startSpans", laid_loop_example_g00484_impl_startSpans), ("loop.example/g00484/impl.partSpans", laid_loop_example_g00484_impl_partSpans), ("unicode/utf8.first", laid_unicode_utf8_first)] }
def FnExactDeclsOkSaid : Prop := fnExactDeclsOkRow.holds Tryd.pinned (OpenSpec.ofChange fnExactDeclsOkSpec)

/-- ITS FALSE NEIGHBOUR: 'it returns false'. Refute it at one input. -/
def fnExactDeclsOkWrong : ChangeSpec := { name := "fnExactDeclsOk", vars := ["loop.example/g00484/impl.startSpans", "loop.example/g00484/impl.partSpans", "loop.example/g00484/impl.signSpans"], fn := fun _ => fun
  | [d, g1, g2, g3] => { results := [.lit (.bool false)], args := [d], vars := [g1, g2, g3] }
  | _ => none }
def FnExactDeclsOkWrongFalsely : Prop := fnExactDeclsOkRow.holds Tryd.pinned (OpenSpec.ofChange fnExactDeclsOkWrong)

/- THE SECOND FORM. 'bulk': how many values and letters a reading holds, each counted each time it is reached (what is shared counts as often as it is met; a slice's spare places count too). A statement '..UptoSaid' is the law's where the arguments, and the package variables that the reading takes, are together of bulk at most 1048576: NARROWER than '..Said'. Prove '..Said' where nothing that the law and all that it calls make is longer than what came in: it says more and counts as full. Else prove '..UptoSaid'. A law counts once. -/
mutual
def uptoBulk {H : Type} : DataW H → Nat
  | .lit (.string bytes) => bytes.length + 1
  | .lit _ => 1
  | .nil => 1
  | .ptr d => uptoBulk d + 1
  | .slice elems spare => uptoBulkAll elems + uptoBulkAll spare + 1
  | .agg parts => uptoBulkAll parts + 1
  | .iface _ d => uptoBulk d + 1
  | .map entries => uptoBulkEntries entries + 1
  | .held _ => 1
def uptoBulkAll {H : Type} : List (DataW H) → Nat
  | [] => 0
  | d :: r => uptoBulk d + uptoBulkAll r
def uptoBulkEntries {H : Type} : List (Lit × DataW H) → Nat
  | [] => 0
  | x :: r => uptoBulkEntry x + uptoBulkEntries r
def uptoBulkEntry {H : Type} : Lit × DataW H → Nat
  | (.string bytes, d) => bytes.length + uptoBulk d + 1
  | (_, d) => uptoBulk d + 1
 end
def uptoSmall : (H : Type) → List (DataW H) → Bool := fun _ ds => decide (uptoBulkAll ds ≤ 1048576)
def OpenSpec.upto (s : _root_.Go.ChangeSpec) : _root_.Go.OpenSpec := { _root_.Go.OpenSpec.ofChange s with cond := some uptoSmall }

/-- 'laws.FnScopes', WHERE WHAT IT READS IS OF BULK AT MOST 1048576: true; the input reads as it did. -/
def fnScopesUptoRow : OpenClaim := { program := "ytifeikodjinpdaadoor", sum := "e025dc03330bb9072ae1dd148244fd1c3898e39210a5f4caac48e2b22f7a74ec", func := "loop.example/g00484/laws.FnScopes", spec := "fnScopes", unfollowed := true, recurses := true, named := ["loop.example/g00484/impl.startSpans", "loop.example/g00484/impl.partSpans", "unicode/utf8.first", "unicode/utf8.acceptRanges", "loop.example/g00484/impl.signSpans"], apart := false, laid := [("unicode/utf8.acceptRanges", laid_unicode_utf8_acceptRanges), ("loop.example/g00484/impl.signSpans", laid_loop_example_g00484_impl_signSpans), ("loop.example/g00484/impl.startSpans", laid_loop_example_g00484_impl_startSpans), ("loop.example/g00484/impl.partSpans", laid_loop_example_g00484_impl_partSpans), ("unicode/utf8.first", laid_unicode_utf8_first)], narrowed := true }
def FnScopesUptoSaid : Prop := fnScopesUptoRow.holds Tryd.pinned (OpenSpec.upto fnScopesSpec)

/-- 'laws.FnExactDeclOk', WHERE WHAT IT READS IS OF BULK AT MOST 1048576: true; the input reads as it did. -/
def fnExactDeclOkUptoRow : OpenClaim := { program := "ytifeikodjinpdaadoor", sum := "e025dc03330bb9072ae1dd148244fd1c3898e39210a5f4caac48e2b22f7a74ec", func := "loop.example/g00484/laws.FnExactDeclOk", spec := "fnExactDeclOk", unfollowed := true, recurses := true, named := ["loop.example/g00484/impl.startSpans", "loop.example/g00484/impl.partSpans", "unicode/utf8.first", "unicode/utf8.acceptRanges", "loop.example/g00484/impl.signSpans"], apart := false, laid := [("unicode/utf8.acceptRanges", laid_unicode_utf8_acceptRanges), ("loop.example/g00484/impl.signSpans", laid_loop_example_g00484_impl_signSpans), ("loop.example/g00484/impl.startSpans", laid_loop_example_g00484_impl_startSpans), ("loop.example/g00484/impl.partSpans", laid_loop_example_g00484_impl_partSpans), ("unicode/utf8.first", laid_unicode_utf8_first)], narrowed := true }
def FnExactDeclOkUptoSaid : Prop := fnExactDeclOkUptoRow.holds Tryd.pinned (OpenSpec.upto fnExactDeclOkSpec)

/-- 'laws.FnExactDeclsOk', WHERE WHAT IT READS IS OF BULK AT MOST 1048576: true; the input reads as it did. -/
def fnExactDeclsOkUptoRow : OpenClaim := { program := "ytifeikodjinpdaadoor", sum := "e025dc03330bb9072ae1dd148244fd1c3898e39210a5f4caac48e2b22f7a74ec", func := "loop.example/g00484/laws.FnExactDeclsOk", spec := "fnExactDeclsOk", unfollowed := true, recurses := true, named := ["loop.example/g00484/impl.startSpans", "loop.example/g00484/impl.partSpans", "unicode/utf8.first", "unicode/utf8.acceptRanges", "loop.example/g00484/impl.signSpans"], apart := false, laid := [("unicode/utf8.acceptRanges", laid_unicode_utf8_acceptRanges), ("loop.example/g00484/impl.signSpans", laid_loop_example_g00484_impl_signSpans), ("loop.example/g00484/impl.startSpans", laid_loop_example_g00484_impl_startSpans), ("loop.example/g00484/impl.partSpans", laid_loop_example_g00484_impl_partSpans), ("unicode/utf8.first", laid_unicode_utf8_first)], narrowed := true }
def FnExactDeclsOkUptoSaid : Prop := fnExactDeclsOkUptoRow.holds Tryd.pinned (OpenSpec.upto fnExactDeclsOkSpec)

end Rows
end Go.Proofs.YtifeikodjinpdaaDoor
