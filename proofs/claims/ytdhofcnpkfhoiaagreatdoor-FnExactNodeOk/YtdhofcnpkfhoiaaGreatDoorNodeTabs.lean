/-
  The tables that NodeOk reads, out of what a row lists.
-/
import Derived.Test.YtdhofcnpkfhoiaaGreatDoorImplNodeOk
namespace Go.Proofs.YtdhofcnpkfhoiaaGreatDoor.trees
open Go.ChangeShapes Go.WideShapes Go.ChangeAt Go.RowKit
set_option linter.unusedVariables false
theorem spans_read {w : World} {name : String} {g : Nat} {D : DataW Unit} {L : List (Int × Int)} (hg : Tryz.prog.globalNamed name = some g) (ht : (Tryz.prog.globals[g]?).map (·.type) = some 161) (eD : D = spans.spanData L) (hL : L ≠ []) (hlen : L.length ≤ maxLen) (h : Lib.VarReads Tryz.prog w name D) : ∃ b off cap, spans.SpansAt w g L b off cap := by
  subst eD
  obtain ⟨g', t, cs, fuel, p, hg', ht', hv, hd⟩ := h
  obtain rfl := Option.some.inj (hg.symm.trans hg')
  obtain rfl := Option.some.inj (ht.symm.trans ht')
  exact spans.spans_of hg hv hL hlen hd
theorem ntabs_of {w : World} {D1 D2 D3 D4 D5 D6 : DataW Unit} (e1 : D1 = Lib.acceptData) (e2 : D2 = Lib.firstData) (e3 : D3 = spans.spanData spans.signL) (e4 : D4 = spans.spanData spans.startL) (e5 : D5 = spans.spanData spans.partL) (e6 : D6 = Lib.tabData .u16 foldTab) (hsh : w.ShapedOpen Tryz.prog)
    (h1 : Lib.VarReads Tryz.prog w "unicode/utf8.acceptRanges" D1) (h2 : Lib.VarReads Tryz.prog w "unicode/utf8.first" D2) (h3 : Lib.VarReads Tryz.prog w "loop.example/g00484/impl.signSpans" D3) (h4 : Lib.VarReads Tryz.prog w "loop.example/g00484/impl.startSpans" D4) (h5 : Lib.VarReads Tryz.prog w "loop.example/g00484/impl.partSpans" D5) (h6 : Lib.VarReads Tryz.prog w "unicode.asciiFold" D6) : NTabs w :=
  ⟨⟨scans.tabs_of e1 e2 h2 h1, scans.signs_of e3 h3, ⟨spans_read (g := 4) (by kernel_rfl) (by kernel_rfl) e4 (by decide) (by decide) h4, spans_read (g := 5) (by kernel_rfl) (by kernel_rfl) e5 (by decide) (by decide) h5⟩⟩, frames.maxAt_of hsh, fold_of e6 h6⟩
end Go.Proofs.YtdhofcnpkfhoiaaGreatDoor.trees
