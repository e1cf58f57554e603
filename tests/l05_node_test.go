package tests

import (
	"math"
	"reflect"
	"slices"
	"strings"
	"testing"

	"loop.example/g00484/impl"
)

func doc(kids ...impl.Node) impl.Node {
	return impl.Node{Kind: impl.NdDoc, Kids: kids}
}

func el(local string, kids ...impl.Node) impl.Node {
	return impl.Node{Kind: impl.NdEl, Local: local, Kids: kids}
}

// elIn is an element of a part ahead and a space.
func elIn(pre string, uri string, kids ...impl.Node) impl.Node {
	return impl.Node{Kind: impl.NdEl, Pre: pre, Local: "a", Uri: uri, Kids: kids}
}

func txt(s string) impl.Node {
	return impl.Node{Kind: impl.NdText, Text: s}
}

func note(s string) impl.Node {
	return impl.Node{Kind: impl.NdNote, Text: s}
}

func told(local string, s string) impl.Node {
	return impl.Node{Kind: impl.NdTold, Local: local, Text: s}
}

func attr(pre string, local string, uri string, val string) impl.Attr {
	return impl.Attr{Pre: pre, Local: local, Uri: uri, Val: val}
}

func withAttrs(n impl.Node, l ...impl.Attr) impl.Node {
	n.Attrs = l
	return n
}

func withDecls(n impl.Node, l ...impl.Decl) impl.Node {
	n.Decls = l
	return n
}

// plainAttrs are n Attrs in no space, in their order.
func plainAttrs(n int) []impl.Attr {
	var l []impl.Attr
	for i := range n {
		l = append(l, attr("", "k"+string(rune('a'+i)), "", ""))
	}
	return l
}

// One right node of each kind, with all that the kind names.
func oneOfEach() []impl.Node {
	full := withDecls(elIn("p", "u", txt("x"), el("b"), note("n"), txt("y"), told("t", "z")), decl("", "v"), decl("p", "u"))
	full.Kids[1].Uri = "v"
	full.Attrs = []impl.Attr{attr("", "k", "", "v"), attr("p", "k", "u", "w")}
	return []impl.Node{doc(note("n"), full, told("t", "x")), full, txt("x"), note("n"), told("t", "x")}
}

var strangeKinds = []int{-1, 5, 6, 9, 256, 257, -255, 1 << 32, 1<<32 + 1, math.MaxInt, math.MinInt}

func wantAlone(t *testing.T, want bool, n impl.Node) {
	t.Helper()
	if impl.NodeOk(n) != want {
		t.Errorf("NodeOk(%+v) = %v", n, !want)
	}
	// What is not right is not written, by whatever reason.
	if want {
		wantWrites(t, n, plainWritten(n))
	} else {
		wantWrites(t, n, "")
	}
}

// wantNode asks for the node as it is, and below others, where it must be right, too.
func wantNode(t *testing.T, want bool, n impl.Node) {
	t.Helper()
	wantAlone(t, want, n)
	wantAlone(t, want, el("w", n))
	wantAlone(t, want, el("w", note(""), el("w", el("w"), n), el("w")))
	wantAlone(t, want, doc(note(""), el("w", el("w", n))))
	if n.Kind == impl.NdEl {
		wantAlone(t, want, doc(n))
	} else {
		wantAlone(t, want && n.Kind != impl.NdText, doc(n, el("w")))
	}
}

func wantFits(t *testing.T, want bool, n impl.Node, l ...impl.Decl) {
	t.Helper()
	if impl.FitsIn(n, l) != want {
		t.Errorf("FitsIn(%+v, %q) = %v", n, l, !want)
	}
}

func wantTree(t *testing.T, want bool, n impl.Node) {
	t.Helper()
	if impl.TreeOk(n) != want {
		t.Errorf("TreeOk(%+v) = %v", n, !want)
	}
}

func wantSame(t *testing.T, want bool, a impl.Node, b impl.Node) {
	t.Helper()
	if impl.SameNode(a, b) != want || impl.SameNode(b, a) != want {
		t.Errorf("SameNode(%+v, %+v) = %v, and back %v", a, b, impl.SameNode(a, b), impl.SameNode(b, a))
	}
}

func wantCount(t *testing.T, want int, n impl.Node) {
	t.Helper()
	if got := impl.CountOf(n); got != want {
		t.Errorf("CountOf(%+v) = %d, want %d", n, got, want)
	}
}

func wantMerge(t *testing.T, l []impl.Node, want ...impl.Node) {
	t.Helper()
	if got := impl.Merge(l); !alike(got, want) {
		t.Errorf("Merge(%+v) = %+v, want %+v", l, got, want)
	}
}

// bare is the node with nil in the place of each empty list: both are the same value.
func bare(n impl.Node) impl.Node {
	n.Decls = append([]impl.Decl(nil), n.Decls...)
	n.Attrs = append([]impl.Attr(nil), n.Attrs...)
	n.Kids = bareAll(n.Kids)
	return n
}

func bareAll(l []impl.Node) []impl.Node {
	var out []impl.Node
	for _, n := range l {
		out = append(out, bare(n))
	}
	return out
}

// alike does not ask SameNode, which is on trial itself.
func alike(a []impl.Node, b []impl.Node) bool {
	return reflect.DeepEqual(bareAll(a), bareAll(b))
}

func TestNodeNumbers(t *testing.T) {
	kinds := []int{impl.NdDoc, impl.NdEl, impl.NdText, impl.NdNote, impl.NdTold}
	if !slices.Equal(kinds, []int{0, 1, 2, 3, 4}) {
		t.Errorf("kinds are %v", kinds)
	}
	if impl.MaxAttrs != 5 || impl.MaxNodes != 60 || impl.MaxDeep != 7 {
		t.Errorf("MaxAttrs = %d, MaxNodes = %d, MaxDeep = %d", impl.MaxAttrs, impl.MaxNodes, impl.MaxDeep)
	}
}

func TestNodeOkOfEachKind(t *testing.T) {
	for kind, n := range oneOfEach() {
		if n.Kind != kind {
			t.Fatalf("the node %d is of the kind %d", kind, n.Kind)
		}
		wantAlone(t, true, n)
		wantTree(t, kind == impl.NdDoc, n)
		if kind != impl.NdDoc {
			wantNode(t, true, n)
		}
	}
}

func TestNodeOkOfStrangeKinds(t *testing.T) {
	for _, kind := range strangeKinds {
		for _, n := range append(oneOfEach(), impl.Node{}, el("a")) {
			n.Kind = kind
			wantAlone(t, false, n)
			wantAlone(t, false, el("w", n))
			wantAlone(t, false, doc(n))
			wantAlone(t, false, doc(el("w"), n))
			wantTree(t, false, n)
		}
	}
}

// What a kind does not name is empty: each field for itself.
func TestNodeOkOfWhatIsNotNamed(t *testing.T) {
	fields := []struct {
		name  string
		fill  func(*impl.Node)
		named []int
	}{
		{"Pre", func(n *impl.Node) { n.Pre = "p" }, nil},
		{"Local", func(n *impl.Node) { n.Local = "a" }, []int{impl.NdEl, impl.NdTold}},
		{"Uri", func(n *impl.Node) { n.Uri = "u" }, []int{impl.NdEl}},
		{"Decls", func(n *impl.Node) { n.Decls = []impl.Decl{decl("p", "u")} }, []int{impl.NdEl}},
		{"a zero Decl", func(n *impl.Node) { n.Decls = []impl.Decl{{}} }, []int{impl.NdEl}},
		{"Attrs", func(n *impl.Node) { n.Attrs = plainAttrs(1) }, []int{impl.NdEl}},
		{"an element as a Kid", func(n *impl.Node) { n.Kids = append(n.Kids, el("a")) }, []int{impl.NdEl}},
		{"a note as a Kid", func(n *impl.Node) { n.Kids = append(n.Kids, note("n")) }, []int{impl.NdDoc, impl.NdEl}},
		{"Text", func(n *impl.Node) { n.Text = "x" }, []int{impl.NdText, impl.NdNote, impl.NdTold}},
		{"a blank Text", func(n *impl.Node) { n.Text = " " }, []int{impl.NdText, impl.NdNote}},
	}
	for _, f := range fields {
		for kind, n := range []impl.Node{doc(el("e")), el("e"), txt("t"), note("n"), told("l", "t")} {
			wantAlone(t, true, n)
			f.fill(&n)
			want := slices.Contains(f.named, kind)
			if impl.NodeOk(n) != want {
				t.Errorf("NodeOk of the kind %d with %s = %v", kind, f.name, !want)
			}
			if kind != impl.NdDoc {
				wantAlone(t, want, el("w", n))
			}
		}
	}
	// A list with nothing in it is as good as none, whatever lies behind its end.
	for _, n := range []impl.Node{doc(el("e")), txt("t"), note("n"), told("l", "t")} {
		n.Decls = declsOf("p", "q")[:0]
		n.Attrs = plainAttrs(2)[:0]
		if n.Kind != impl.NdDoc {
			n.Kids = []impl.Node{el("behind")}[:0]
		}
		wantAlone(t, true, n)
	}
}

func TestNodeOkOfWholeTexts(t *testing.T) {
	e, n, p := el("a"), note("n"), told("t", "x")
	for _, kids := range [][]impl.Node{{e}, {n, e}, {e, n}, {p, e}, {e, p}, {n, p, n, e, p, n, n}, {el("a", txt("x"), el("b"), txt("y"))}} {
		wantAlone(t, true, doc(kids...))
		wantTree(t, true, doc(kids...))
	}
	for _, kids := range [][]impl.Node{
		nil, {}, {n}, {p}, {n, p}, {e, e}, {e, n, el("b")}, {n, e, p, e, n},
		{txt("x")}, {e, txt("x")}, {txt("x"), e}, {txt(" "), e}, {n, txt("\n"), e}, {txt("x"), n, e, txt("y")},
		{doc(e)}, {e, doc(e)}, {doc(e), e}, {el("a", doc(e))}, {el("a", el("b", doc(e)))},
		{note("--"), e}, {e, told("xml", "")}, {el("1")}, {el("a", txt(""))},
	} {
		wantAlone(t, false, doc(kids...))
		wantTree(t, false, doc(kids...))
	}
	wantAlone(t, false, impl.Node{})
	wantTree(t, false, impl.Node{})
}

func TestNodeOkOfNames(t *testing.T) {
	for _, s := range plainNames {
		wantNode(t, true, el(s))
		wantNode(t, !strings.EqualFold(s, "xml"), told(s, ""))
		pre := !strings.HasPrefix(s, "xml")
		wantNode(t, pre, elIn(s, "u"))
		wantNode(t, pre, withAttrs(el("a"), attr(s, "k", "u", "")))
		wantNode(t, s != "xmlns", withAttrs(el("a"), attr("", s, "", "")))
		wantNode(t, true, withAttrs(el("a"), attr("p", s, "u", "")))
	}
	for _, s := range append(slices.Clone(noNames), noTexts...) {
		wantNode(t, false, el(s))
		wantNode(t, false, told(s, ""))
		wantNode(t, false, told(s, "x"))
		wantNode(t, s == "", elIn(s, "u"))
		wantNode(t, false, withAttrs(el("a"), attr(s, "k", "u", "")))
		wantNode(t, false, withAttrs(el("a"), attr("", s, "", "")))
		wantNode(t, false, withAttrs(el("a"), attr("p", s, "u", "")))
	}
	for _, pre := range []string{"xml", "xmlns", "xmlx", "xml-"} {
		wantNode(t, false, elIn(pre, "u"))
		wantNode(t, false, elIn(pre, ""))
		wantNode(t, false, withAttrs(el("a"), attr(pre, "k", "u", "")))
	}
	for _, pre := range []string{"XML", "Xml", "xm", "axml"} {
		wantNode(t, true, elIn(pre, "u"))
		wantNode(t, true, withAttrs(el("a"), attr(pre, "k", "u", "")))
	}
}

func TestNodeOkOfSpacesOfElements(t *testing.T) {
	long := strings.Repeat("u", impl.MaxUri)
	for _, uri := range []string{"u", "urn:a:b", " ", "<>&'\"\t\n\r", "\u00e9\u3042\U00010000", long} {
		wantNode(t, true, elIn("", uri))
		wantNode(t, true, elIn("p", uri))
	}
	// Of an empty Pre there may be none; of another one there is a space.
	wantNode(t, true, elIn("", ""))
	wantNode(t, false, elIn("p", ""))
	for _, uri := range append([]string{long + "u", strings.Repeat("u", impl.MaxText)}, noTexts...) {
		wantNode(t, false, elIn("", uri))
		wantNode(t, false, elIn("p", uri))
		wantNode(t, false, elIn("p", "u"+uri))
	}
}

func TestNodeOkOfDecls(t *testing.T) {
	for _, l := range [][]impl.Decl{nil, {}, declsOf("p"), declsOf("", "p"), declsOf("a", "b", "c", "d"), {decl("", "")}} {
		wantNode(t, true, withDecls(el("a"), l...))
	}
	for _, l := range [][]impl.Decl{declsOf("q", "p"), declsOf("p", "p"), declsOf("a", "b", "c", "d", "e"), {decl("p", "")}, declsOf("xml"), declsOf("1"), {decl("p", "\xff")}, {decl("p", strings.Repeat("u", impl.MaxUri+1))}} {
		wantNode(t, false, withDecls(el("a"), l...))
	}
}

func TestNodeOkOfAttrs(t *testing.T) {
	for _, l := range [][]impl.Attr{
		{attr("", "k", "", "")}, {attr("", "k", "", "v")}, {attr("p", "k", "u", "v")},
		{attr("", "a", "", "v"), attr("", "b", "", "v")},
		{attr("", "k", "", "v"), attr("p", "k", "u", "v"), attr("q", "k", "v", "v")},
		{attr("q", "a", "u", ""), attr("p", "b", "u", "")},
		{attr("", "z", "", ""), attr("p", "a", "u", "")},
		{attr("q", "z", "u", ""), attr("p", "a", "v", "")},
		{attr("", "k", "", strings.Repeat("v", impl.MaxText))},
		{attr("", "k", "", "<>&'\"\t\n\r--?>")},
		{attr("p", "k", strings.Repeat("u", impl.MaxUri), "")},
		{attr("", "xml", "", "")}, {attr("", "Xmlns", "", "")}, {attr("", "xmlnsx", "", "")},
	} {
		wantNode(t, true, withAttrs(el("a"), l...))
	}
	for _, s := range noTexts {
		wantNode(t, false, withAttrs(el("a"), attr("", "k", "", s)))
		wantNode(t, false, withAttrs(el("a"), attr("", "k", "", "v"+s+"v")))
		wantNode(t, false, withAttrs(el("a"), attr("p", "k", s, "")))
		wantNode(t, false, withAttrs(el("a"), attr("p", "k", "u"+s, "")))
	}
	wantNode(t, false, withAttrs(el("a"), attr("", "k", "", strings.Repeat("v", impl.MaxText+1))))
	wantNode(t, false, withAttrs(el("a"), attr("p", "k", strings.Repeat("u", impl.MaxUri+1), "")))
	wantNode(t, false, withAttrs(el("a"), impl.Attr{}))
}

func TestNodeOkOfAttrsInASpaceOrInNone(t *testing.T) {
	for _, pre := range []string{"", "p"} {
		for _, uri := range []string{"", "u"} {
			wantNode(t, (pre == "") == (uri == ""), withAttrs(el("a"), attr(pre, "k", uri, "v")))
			wantNode(t, (pre == "") == (uri == ""), withAttrs(withDecls(elIn("", "u"), decl("", "u"), decl("p", "u")), attr(pre, "k", uri, "v")))
		}
	}
}

func TestNodeOkOfAnAttrXmlns(t *testing.T) {
	wantNode(t, false, withAttrs(el("a"), attr("", "xmlns", "", "")))
	wantNode(t, false, withAttrs(el("a"), attr("", "xmlns", "", "u")))
	wantNode(t, false, withAttrs(el("a"), attr("", "k", "", ""), attr("", "xmlns", "", "")))
	wantNode(t, true, withAttrs(el("a"), attr("p", "xmlns", "u", "v")))
	wantNode(t, true, el("xmlns"))
	wantNode(t, true, withAttrs(el("a"), attr("", "XMLNS", "", "")))
}

// The order is that of bytes, of Uri, then of Local; Pre and Val have no part in it.
func TestNodeOkOfTheOrderOfAttrs(t *testing.T) {
	order := []impl.Attr{
		attr("", "Z", "", ""), attr("", "a", "", ""), attr("", "a-", "", ""), attr("", "aa", "", ""), attr("", "z", "", ""), attr("", "\u00e9", "", ""),
		attr("p", "b", " ", ""), attr("p", "a", "U", ""), attr("p", "a", "u", ""), attr("p", "b", "u", ""), attr("p", "a", "ua", ""), attr("p", "a", "v", ""), attr("p", "a", "\u00e9", ""), attr("p", "a", "\U00010000", ""),
	}
	for i, first := range order {
		for j, second := range order {
			wantAlone(t, i < j, withAttrs(el("a"), first, second))
			other := second
			other.Val = "v"
			if other.Pre != "" {
				other.Pre = "o"
			}
			wantAlone(t, i < j, withAttrs(el("a"), first, other))
			wantAlone(t, j < i, withAttrs(el("a"), other, first))
		}
	}
	five := []impl.Attr{order[0], order[2], order[5], order[8], order[11]}
	wantAlone(t, true, withAttrs(el("a"), five...))
	for i := range five {
		for j := range five {
			turned := slices.Clone(five)
			turned[i] = five[j]
			wantAlone(t, i == j, withAttrs(el("a"), turned...))
			turned[j] = five[i]
			wantAlone(t, i == j, withAttrs(el("a"), turned...))
		}
	}
}

func TestNodeOkOfOneAttrThatIsNotRight(t *testing.T) {
	for i := range impl.MaxAttrs {
		for _, spoil := range []func(*impl.Attr){
			func(a *impl.Attr) { a.Pre = "p" },
			func(a *impl.Attr) { a.Local += " " },
			func(a *impl.Attr) { a.Val = "\x00" },
		} {
			l := plainAttrs(impl.MaxAttrs)
			wantAlone(t, true, withAttrs(el("a"), l...))
			spoil(&l[i])
			wantAlone(t, false, withAttrs(el("a"), l...))
			wantAlone(t, false, withAttrs(el("a"), l[:i+1]...))
		}
	}
}

func TestNodeOkOfMaxAttrs(t *testing.T) {
	for n := range 2 * impl.MaxAttrs {
		wantNode(t, n <= impl.MaxAttrs, withAttrs(el("a"), plainAttrs(n)...))
	}
	wantNode(t, false, withAttrs(el("a"), make([]impl.Attr, 1000)...))
}

func TestNodeOkOfTexts(t *testing.T) {
	for _, s := range []string{"x", " ", "\t\n\r", "\r", "a\r\nb", "--", "-", "?>", "<>&'\"]]>", "\u00e9\u3042\U00010000", "\uFFFD", strings.Repeat("x", impl.MaxText), strings.Repeat("\u3042", impl.MaxText/3)} {
		wantNode(t, true, txt(s))
	}
	for _, s := range append([]string{"", strings.Repeat("x", impl.MaxText+1), strings.Repeat("\u00e9", impl.MaxText)}, noTexts...) {
		wantNode(t, false, txt(s))
		if s != "" {
			wantNode(t, false, txt("x"+s))
		}
	}
}

func TestNodeOkOfNotes(t *testing.T) {
	for _, s := range []string{"", "n", " ", "-a", " -a- ", "a-b-c", "- - ", "->", "?>", "<>&]]>", "\t\n", "\u00e9\U00010000", strings.Repeat("n", impl.MaxText), strings.Repeat("-n", impl.MaxText/2)} {
		wantNode(t, true, note(s))
	}
	for _, s := range append([]string{
		"--", "--a", "a--", "a--b", "---", "-->", "- --",
		"-", "a-", "a -", "\u00e9-",
		"\r", "a\rb", "a\r", "\ra", "\r\n",
		strings.Repeat("n", impl.MaxText+1), strings.Repeat("n", impl.MaxText-1) + "-",
	}, noTexts...) {
		wantNode(t, false, note(s))
	}
	for _, s := range noTexts {
		wantNode(t, false, note("n"+s+"n"))
	}
}

func TestNodeOkOfTheNamesOfWhatIsTold(t *testing.T) {
	for _, s := range []string{"xml", "XML", "Xml", "xMl", "xmL", "XMl", "XmL", "xML"} {
		wantNode(t, false, told(s, ""))
		wantNode(t, false, told(s, "x"))
	}
	for _, s := range []string{"x", "xm", "xmlx", "xml-", "axml", "xmlns", "XMLns", "x-m-l", "\u0445ml", "xm\u0142", "x\u00b7ml"} {
		wantNode(t, true, told(s, ""))
		wantNode(t, true, told(s, "x"))
	}
	wantNode(t, false, told("p:a", ""))
	wantNode(t, false, told("", "x"))
}

func TestNodeOkOfTheTextsOfWhatIsTold(t *testing.T) {
	for _, s := range []string{"", "x", "x ", "x\ty\n", "?", "??", ">", "x?", "? >", ">?", "--", "-", "a-", "<&>'\"]]>", "\u00a0x", "\u2003x", "\u00e9", strings.Repeat("x", impl.MaxText)} {
		wantNode(t, true, told("t", s))
	}
	for _, s := range append([]string{
		" ", " x", "\tx", "\nx", "\rx", "  x",
		"?>", "x?>", "?>x", "x?>y", "??>",
		"\r", "x\r", "x\ry", "x\r\n",
		strings.Repeat("x", impl.MaxText+1),
	}, noTexts...) {
		wantNode(t, false, told("t", s))
	}
	for _, s := range noTexts {
		wantNode(t, false, told("t", "x"+s+"x"))
	}
}

func TestNodeOkOfTextsBesideEachOther(t *testing.T) {
	x, e := txt("x"), el("b")
	for _, kids := range [][]impl.Node{{x}, {x, e, x}, {e, x, e}, {x, note(""), x}, {x, told("t", ""), x}, {x, el("b", x), x}, {el("b", x), el("b", x)}, {el("b", x), x}} {
		wantNode(t, true, el("a", kids...))
	}
	for _, kids := range [][]impl.Node{{x, x}, {x, txt("y")}, {txt(" "), txt("\n")}, {e, x, x}, {x, x, e}, {x, e, x, x}, {el("b", x, x)}, {e, el("b", e, x, x, e), x}, {x, txt(""), x}, {x, txt("")}} {
		wantNode(t, false, el("a", kids...))
	}
}

func TestNodeOkOfWholeTextsBelowOthers(t *testing.T) {
	right := doc(el("a"))
	wantAlone(t, true, right)
	for _, n := range []impl.Node{right, {}, doc(note("n"))} {
		wantAlone(t, false, el("a", n))
		wantAlone(t, false, el("a", el("b"), n, el("b")))
		wantAlone(t, false, el("a", el("b", el("c", n))))
		wantAlone(t, false, doc(el("a"), n))
		wantAlone(t, false, doc(n, el("a")))
		wantAlone(t, false, doc(el("a", n)))
	}
}

// flat is an element with that many nodes in all.
func flat(nodes int) impl.Node {
	n := el("a")
	for range nodes - 1 {
		n.Kids = append(n.Kids, el("b"))
	}
	return n
}

func TestNodeOkOfMaxNodes(t *testing.T) {
	for _, nodes := range []int{1, 2, impl.MaxNodes - 1, impl.MaxNodes, impl.MaxNodes + 1, impl.MaxNodes + 2, 2 * impl.MaxNodes, 5000} {
		wantCount(t, nodes, flat(nodes))
		wantAlone(t, nodes <= impl.MaxNodes, flat(nodes))
		// The whole text is one of them.
		wantAlone(t, nodes < impl.MaxNodes, doc(flat(nodes)))
		wantTree(t, nodes < impl.MaxNodes, doc(flat(nodes)))
		// So is each Attr, of it and below it.
		for k := 1; k <= impl.MaxAttrs; k++ {
			wantAlone(t, nodes+k <= impl.MaxNodes, withAttrs(flat(nodes), plainAttrs(k)...))
			if nodes > 1 {
				n := flat(nodes)
				n.Kids[nodes-2].Attrs = plainAttrs(k)
				wantAlone(t, nodes+k <= impl.MaxNodes, n)
			}
		}
		// Decls are none.
		wantAlone(t, nodes <= impl.MaxNodes, withDecls(flat(nodes), declsOf("p", "q", "r")...))
	}
	for notes := 55; notes < 65; notes++ {
		n := doc(el("a"))
		for range notes {
			n.Kids = append(n.Kids, note(""))
		}
		wantTree(t, notes+2 <= impl.MaxNodes, n)
	}
}

// chain is that many elements one within the other.
func chain(deep int, last ...impl.Node) impl.Node {
	n := el("a", last...)
	for range deep - 1 {
		n = el("a", n)
	}
	return n
}

func TestNodeOkOfMaxDeep(t *testing.T) {
	for deep := 1; deep <= 2*impl.MaxDeep; deep++ {
		want := deep <= impl.MaxDeep
		wantAlone(t, want, chain(deep))
		wantTree(t, want, doc(chain(deep)))
		// What is no element does not count.
		wantAlone(t, want, chain(deep, txt("x"), note("n"), told("t", "")))
		wantTree(t, want, doc(note("n"), chain(deep, txt("x")), note("n")))
		// It is the deepest one, wherever it stands.
		wantAlone(t, deep < impl.MaxDeep, el("a", el("b"), chain(deep), el("b")))
		wantAlone(t, deep < impl.MaxDeep, el("a", chain(deep), chain(1)))
		wantAlone(t, deep < impl.MaxDeep, el("a", chain(1), chain(deep)))
	}
}

// A list of Kids may hold itself: that is no tree, and asking ends.
func TestNodeOkOfWhatHasNoEnd(t *testing.T) {
	kids := []impl.Node{el("a"), el("b")}
	kids[0].Kids = kids
	kids[1].Kids = kids
	if impl.NodeOk(kids[0]) || impl.NodeOk(doc(kids[:1]...)) || impl.TreeOk(doc(kids[:1]...)) {
		t.Error("what has no end is right")
	}
	kids = []impl.Node{doc()}
	kids[0].Kids = kids
	if impl.NodeOk(kids[0]) || impl.TreeOk(kids[0]) {
		t.Error("a whole text that is within itself is right")
	}
}

func TestDeepNodes(t *testing.T) {
	n, m := chain(20000, txt("x")), chain(20000, txt("y"))
	if impl.NodeOk(n) || impl.TreeOk(doc(n)) {
		t.Error("20000 elements one within the other are right")
	}
	if impl.CountOf(n) != 20001 || !impl.FitsIn(n, nil) || !impl.SameNode(n, n) || impl.SameNode(n, m) {
		t.Error("20000 elements one within the other")
	}
	if l := impl.Merge([]impl.Node{n, m}); len(l) != 2 || !impl.SameNode(l[0], n) || !impl.SameNode(l[1], m) {
		t.Error("Merge of 20000 elements one within the other")
	}
}

func TestFitsIn(t *testing.T) {
	u, v := decl("p", "u"), decl("p", "v")
	wantFits(t, true, elIn("", ""))
	wantFits(t, true, elIn("", ""), u)
	wantFits(t, true, elIn("p", "u"), u)
	wantFits(t, false, elIn("p", "u"))
	wantFits(t, false, elIn("p", "u"), v)
	wantFits(t, false, elIn("p", "u"), decl("q", "u"))
	wantFits(t, false, elIn("p", "u"), decl("", "u"))
	// At the element itself, and covered there.
	wantFits(t, true, withDecls(elIn("p", "u"), u))
	wantFits(t, true, withDecls(elIn("p", "u"), u), v)
	wantFits(t, false, withDecls(elIn("p", "u"), v), u)
	wantFits(t, true, withDecls(elIn("p", "v"), v), u)
	// Of what is outside the last one counts.
	wantFits(t, true, elIn("p", "u"), v, u)
	wantFits(t, false, elIn("p", "u"), u, v)
}

func TestFitsInBelow(t *testing.T) {
	u, v, q := decl("p", "u"), decl("p", "v"), decl("q", "u")
	wantFits(t, true, el("a", elIn("p", "u")), u)
	wantFits(t, false, el("a", elIn("p", "u")))
	wantFits(t, true, withDecls(el("a", el("b", elIn("p", "u"))), u))
	wantFits(t, true, el("a", withDecls(el("b", elIn("p", "u")), u)))
	wantFits(t, true, withDecls(el("a", withDecls(el("b", elIn("p", "v"), elIn("q", "u")), v)), u, q))
	wantFits(t, false, withDecls(el("a", withDecls(el("b", elIn("p", "u")), v)), u))
	// What is declared further in does not hold outside, nor beside it.
	wantFits(t, false, elIn("p", "u", withDecls(el("b"), u)))
	wantFits(t, false, el("a", withDecls(el("b"), u), elIn("p", "u")))
	wantFits(t, false, el("a", elIn("p", "u"), withDecls(el("b"), u)))
	wantFits(t, true, withDecls(el("a", withDecls(elIn("p", "v"), v), elIn("p", "u")), u))
	wantFits(t, false, withDecls(el("a", withDecls(elIn("p", "v"), v), elIn("p", "v")), u))
	// Each of them is asked, wherever it stands.
	for i := range 4 {
		n := withDecls(elIn("p", "u", elIn("p", "u"), elIn("p", "u", elIn("p", "u"))), u)
		wantFits(t, true, n)
		[]*impl.Node{&n, &n.Kids[0], &n.Kids[1], &n.Kids[1].Kids[0]}[i].Uri = "v"
		wantFits(t, false, n)
	}
}

func TestFitsInOfTheEmptyPartAhead(t *testing.T) {
	u, none := decl("", "u"), decl("", "")
	wantFits(t, false, elIn("", ""), u)
	wantFits(t, false, elIn("", "u"))
	wantFits(t, true, elIn("", "u"), u)
	wantFits(t, true, elIn("", ""), u, none)
	wantFits(t, true, withDecls(elIn("", ""), none), u)
	wantFits(t, false, withDecls(elIn("", "u"), none), u)
	wantFits(t, true, withDecls(elIn("", "u", elIn("", "u"), withDecls(elIn("", ""), none)), u))
	wantFits(t, false, withDecls(elIn("", "u", elIn("", "")), u))
}

// A part ahead without a space is none, also where the Uri is empty.
func TestFitsInOfAPartAheadThatIsNotDeclared(t *testing.T) {
	wantFits(t, false, elIn("p", ""))
	wantFits(t, false, withAttrs(el("a"), attr("p", "k", "", "")))
	wantFits(t, true, elIn("p", ""), decl("p", ""))
}

func TestFitsInOfAttrs(t *testing.T) {
	u, v := decl("p", "u"), decl("p", "v")
	n := withAttrs(el("a"), attr("p", "k", "u", ""))
	wantFits(t, true, n, u)
	wantFits(t, false, n)
	wantFits(t, false, n, v)
	wantFits(t, false, n, u, v)
	wantFits(t, true, withDecls(n, u))
	wantFits(t, true, withDecls(n, u), v)
	wantFits(t, false, withDecls(n, v), u)
	wantFits(t, true, el("a", n), u)
	wantFits(t, false, el("a", el("b"), n), v)
	wantFits(t, false, withAttrs(el("a", withDecls(el("b"), u)), attr("p", "k", "u", "")))
	// Without a part ahead an Attr is in no space, whatever the empty one means.
	wantFits(t, true, withAttrs(elIn("", "w"), attr("", "k", "", "")), decl("", "w"))
	wantFits(t, true, withAttrs(el("a"), attr("", "k", "x", "")))
	for i := range 3 {
		l := []impl.Attr{attr("", "k", "", ""), attr("p", "a", "u", ""), attr("p", "b", "u", "")}
		wantFits(t, true, withAttrs(el("a"), l...), u)
		l[i] = attr("q", "a", "u", "")
		wantFits(t, false, withAttrs(el("a"), l...), u)
	}
}

// Decls and Attrs of what is no element count likewise, its name does not.
func TestFitsInOfWhatIsNoElement(t *testing.T) {
	u, v := decl("p", "u"), decl("p", "v")
	for _, kind := range append([]int{impl.NdDoc, impl.NdText, impl.NdNote, impl.NdTold}, strangeKinds...) {
		n := impl.Node{Kind: kind}
		wantFits(t, true, n)
		wantFits(t, true, n, decl("", "u"))
		n.Pre, n.Uri = "p", "x"
		wantFits(t, true, n)
		wantFits(t, true, n, u)
		wantFits(t, true, el("a", n), u)
		with := withAttrs(n, attr("p", "k", "u", ""))
		wantFits(t, false, with)
		wantFits(t, false, with, v)
		wantFits(t, true, with, u)
		wantFits(t, true, withDecls(with, u), v)
		wantFits(t, false, withDecls(with, v), u)
		wantFits(t, false, el("a", with))
		wantFits(t, true, withAttrs(n, attr("", "k", "x", "")))
		n.Kids = []impl.Node{elIn("p", "u")}
		wantFits(t, false, n)
		wantFits(t, true, n, u)
		wantFits(t, true, withDecls(n, u))
		wantFits(t, true, withDecls(n, u), v)
		wantFits(t, false, withDecls(n, v), u)
		wantFits(t, false, el("a", withDecls(n, v)), u)
		n.Kids[0] = withAttrs(el("a"), attr("p", "k", "u", ""))
		wantFits(t, true, withDecls(n, u), v)
		wantFits(t, false, withDecls(n, v), u)
	}
}

func TestTreeOk(t *testing.T) {
	u := decl("p", "u")
	wantTree(t, true, doc(el("a")))
	wantTree(t, true, doc(withDecls(elIn("p", "u", elIn("p", "u"), el("b")), u)))
	wantTree(t, true, doc(withDecls(elIn("", "u", elIn("", "u")), decl("", "u"))))
	// Right, but not in nothing.
	for _, n := range []impl.Node{elIn("p", "u"), elIn("", "u"), withAttrs(el("a"), attr("p", "k", "u", "")), withDecls(elIn("", "u", el("b")), decl("", "u")), el("a", withDecls(el("b"), u), elIn("p", "u"))} {
		wantAlone(t, true, doc(n))
		wantTree(t, false, doc(n))
	}
	// In nothing, but not right.
	for _, n := range []impl.Node{doc(), doc(el("1")), doc(el("a"), el("b")), withDecls(doc(elIn("p", "u")), u), withDecls(doc(el("a")), u)} {
		wantFits(t, true, n)
		wantTree(t, false, n)
	}
	// Right, and in nothing, but no whole text.
	for _, n := range []impl.Node{el("a"), txt("x"), note("n"), told("t", "")} {
		wantAlone(t, true, n)
		wantFits(t, true, n)
		wantTree(t, false, n)
	}
}

// manyNodes are unlike nodes: each differs from the others in one place at least.
func manyNodes() []impl.Node {
	full := func() impl.Node {
		n := withDecls(elIn("p", "u", el("b", txt("x")), txt("y")), decl("", "v"), decl("p", "u"))
		n.Attrs = []impl.Attr{attr("", "k", "", "v"), attr("p", "k", "u", "w")}
		n.Text = "t"
		return n
	}
	l := []impl.Node{{}, full()}
	for _, turn := range []func(*impl.Node){
		func(n *impl.Node) { n.Kind = impl.NdDoc },
		func(n *impl.Node) { n.Kind = impl.NdText },
		func(n *impl.Node) { n.Kind = 9 },
		func(n *impl.Node) { n.Pre = "q" },
		func(n *impl.Node) { n.Pre = "" },
		func(n *impl.Node) { n.Local = "A" },
		func(n *impl.Node) { n.Uri = "uu" },
		func(n *impl.Node) { n.Uri = "" },
		func(n *impl.Node) { n.Text = "T" },
		func(n *impl.Node) { n.Text = "" },
		func(n *impl.Node) { n.Pre, n.Local = n.Local, n.Pre },
		func(n *impl.Node) { n.Decls = nil },
		func(n *impl.Node) { n.Decls = n.Decls[:1] },
		func(n *impl.Node) { n.Decls = n.Decls[1:] },
		func(n *impl.Node) { n.Decls[0], n.Decls[1] = n.Decls[1], n.Decls[0] },
		func(n *impl.Node) { n.Decls[0].Pre = "o" },
		func(n *impl.Node) { n.Decls[1].Uri = "x" },
		func(n *impl.Node) { n.Attrs = nil },
		func(n *impl.Node) { n.Attrs = n.Attrs[:1] },
		func(n *impl.Node) { n.Attrs = n.Attrs[1:] },
		func(n *impl.Node) { n.Attrs[0], n.Attrs[1] = n.Attrs[1], n.Attrs[0] },
		func(n *impl.Node) { n.Attrs[1].Pre = "q" },
		func(n *impl.Node) { n.Attrs[1].Local = "l" },
		func(n *impl.Node) { n.Attrs[1].Uri = "x" },
		func(n *impl.Node) { n.Attrs[1].Val = "x" },
		func(n *impl.Node) { n.Attrs[0].Val = "" },
		func(n *impl.Node) { n.Kids = nil },
		func(n *impl.Node) { n.Kids = n.Kids[:1] },
		func(n *impl.Node) { n.Kids = n.Kids[1:] },
		func(n *impl.Node) { n.Kids = append(n.Kids, impl.Node{}) },
		func(n *impl.Node) { n.Kids[0], n.Kids[1] = n.Kids[1], n.Kids[0] },
		func(n *impl.Node) { n.Kids[0].Local = "c" },
		func(n *impl.Node) { n.Kids[0].Pre = "p" },
		func(n *impl.Node) { n.Kids[0].Decls = declsOf("p") },
		func(n *impl.Node) { n.Kids[0].Attrs = plainAttrs(1) },
		func(n *impl.Node) { n.Kids[0].Kids = nil },
		func(n *impl.Node) { n.Kids[0].Kids[0].Text = "z" },
		func(n *impl.Node) { n.Kids[0].Kids[0].Kind = impl.NdNote },
		func(n *impl.Node) { n.Kids[0].Kids[0].Uri = "u" },
		func(n *impl.Node) { n.Kids[1].Text = "yy" },
		func(n *impl.Node) { n.Kids[1].Local = "y" },
	} {
		n := full()
		turn(&n)
		l = append(l, n)
	}
	return l
}

func TestSameNode(t *testing.T) {
	l, again := manyNodes(), manyNodes()
	for i := range l {
		for j := range again {
			wantSame(t, i == j, l[i], again[j])
			wantSame(t, i == j, el("w", el("w"), l[i]), el("w", el("w"), again[j]))
		}
	}
	l, again = oneOfEach(), oneOfEach()
	for i := range l {
		for j := range again {
			wantSame(t, i == j, l[i], again[j])
		}
	}
	// A text is the same byte by byte, also where its bytes are no signs.
	wantSame(t, true, txt("\xff"), txt("\xff"))
	wantSame(t, false, txt("\xff"), txt("\xfe"))
	wantSame(t, false, txt("\xff"), txt("\uFFFD"))
	wantSame(t, false, txt("e\u0301"), txt("\u00e9"))
}

func TestSameNodeOfNilAndEmpty(t *testing.T) {
	none := impl.Node{Kind: impl.NdEl, Local: "a"}
	empty := impl.Node{Kind: impl.NdEl, Local: "a", Decls: []impl.Decl{}, Attrs: []impl.Attr{}, Kids: []impl.Node{}}
	room := impl.Node{Kind: impl.NdEl, Local: "a", Decls: declsOf("p")[:0], Attrs: plainAttrs(1)[:0], Kids: []impl.Node{el("behind")}[:0]}
	for _, a := range []impl.Node{none, empty, room} {
		for _, b := range []impl.Node{none, empty, room} {
			wantSame(t, true, a, b)
			wantSame(t, true, el("w", a), el("w", b))
		}
		wantAlone(t, true, a)
		wantFits(t, true, a)
		wantCount(t, 1, a)
	}
}

func TestCountOf(t *testing.T) {
	wantCount(t, 1, impl.Node{})
	for _, n := range []impl.Node{el("a"), txt("x"), txt(""), note("n"), told("t", "x"), doc()} {
		wantCount(t, 1, n)
	}
	wantCount(t, 2, doc(el("a")))
	wantCount(t, 4, doc(note("n"), el("a"), told("t", "")))
	wantCount(t, 2, withAttrs(el("a"), plainAttrs(1)...))
	wantCount(t, 6, withAttrs(el("a"), plainAttrs(5)...))
	wantCount(t, 1, withDecls(el("a"), declsOf("p", "q")...))
	wantCount(t, 3, el("a", txt("x"), txt("y")))
	wantCount(t, 6, el("a", withAttrs(el("b", txt("x")), plainAttrs(2)...), el("c")))
	wantCount(t, 1001, flat(1001))
	wantCount(t, 100, chain(100))
	// Whatever they are, all that stand there count.
	for _, kind := range append([]int{impl.NdDoc, impl.NdText, impl.NdNote, impl.NdTold}, strangeKinds...) {
		n := impl.Node{Kind: kind, Attrs: plainAttrs(7), Kids: []impl.Node{txt(""), doc(), withAttrs(note(""), impl.Attr{}, impl.Attr{})}}
		wantCount(t, 13, n)
		wantCount(t, 14, el("a", n))
	}
}

func TestMerge(t *testing.T) {
	x, y, none, e := txt("x"), txt("y"), txt(""), el("a")
	wantMerge(t, nil)
	wantMerge(t, []impl.Node{})
	wantMerge(t, []impl.Node{x}, x)
	wantMerge(t, []impl.Node{x, y}, txt("xy"))
	wantMerge(t, []impl.Node{y, x, x}, txt("yxx"))
	wantMerge(t, []impl.Node{none})
	wantMerge(t, []impl.Node{none, none, none})
	wantMerge(t, []impl.Node{x, none, y}, txt("xy"))
	wantMerge(t, []impl.Node{none, x, none, none, y, none}, txt("xy"))
	wantMerge(t, []impl.Node{none, e, none}, e)
	wantMerge(t, []impl.Node{x, e, y}, x, e, y)
	wantMerge(t, []impl.Node{x, y, e, y, none, x}, txt("xy"), e, txt("yx"))
	wantMerge(t, []impl.Node{e, x, none, e, none, e}, e, x, e, e)
	wantMerge(t, []impl.Node{txt(" "), txt("\n"), txt("\r")}, txt(" \n\r"))
	// Bytes that are no signs alone are laid together as they are.
	wantMerge(t, []impl.Node{txt("\xe3\x81"), txt("\x82"), txt("\x00")}, txt("\u3042\x00"))
}

// Just texts go together, and just those of l itself.
func TestMergeLeavesOthersAsTheyAre(t *testing.T) {
	for _, n := range []impl.Node{el("a"), note("n"), note(""), told("t", "x"), told("t", ""), told("", ""), doc(el("a")), {}, {Kind: impl.NdDoc, Text: "x"}, {Kind: impl.NdEl, Text: "x"}} {
		wantMerge(t, []impl.Node{n, n}, n, n)
		wantMerge(t, []impl.Node{txt("x"), n, n, txt("y")}, txt("x"), n, n, txt("y"))
		wantMerge(t, []impl.Node{n, txt("x"), txt("y"), n}, n, txt("xy"), n)
	}
	for _, kind := range strangeKinds {
		n := impl.Node{Kind: kind, Text: "x", Local: "a", Kids: []impl.Node{txt("")}}
		wantMerge(t, []impl.Node{n, n, txt(""), n}, n, n, n)
		wantMerge(t, []impl.Node{{Kind: kind}}, impl.Node{Kind: kind})
	}
	below := el("a", txt("x"), txt(""), txt("y"), el("b", txt(""), txt("z"), txt("z")))
	wantMerge(t, []impl.Node{below, txt("x"), txt("y"), below}, below, txt("xy"), below)
	for _, n := range manyNodes() {
		if n.Kind != impl.NdText {
			wantMerge(t, []impl.Node{txt("x"), n, txt(""), n, txt("y")}, txt("x"), n, n, txt("y"))
		}
	}
}

// A text that is too long to be right comes all the same.
func TestMergeOfLongTexts(t *testing.T) {
	long := txt(strings.Repeat("x", impl.MaxText))
	wantMerge(t, []impl.Node{long, txt("y")}, txt(long.Text+"y"))
	wantMerge(t, []impl.Node{long, long}, txt(long.Text+long.Text))
	wantAlone(t, true, el("a", long))
	wantAlone(t, false, el("a", impl.Merge([]impl.Node{long, txt("y")})...))
	half := txt(strings.Repeat("x", impl.MaxText/2))
	wantAlone(t, true, el("a", impl.Merge([]impl.Node{half, txt(""), half})...))
	var many []impl.Node
	for range 1000 {
		many = append(many, txt("ab"), txt(""))
	}
	wantMerge(t, many, txt(strings.Repeat("ab", 1000)))
}

// mergedOf is another way to the same: from the back, each one joins what is behind it.
func mergedOf(l []impl.Node) []impl.Node {
	if len(l) == 0 {
		return nil
	}
	first, rest := l[0], mergedOf(l[1:])
	switch {
	case first.Kind == impl.NdText && first.Text == "":
		return rest
	case first.Kind == impl.NdText && len(rest) > 0 && rest[0].Kind == impl.NdText:
		return append([]impl.Node{txt(first.Text + rest[0].Text)}, rest[1:]...)
	}
	return append([]impl.Node{first}, rest...)
}

// eachNodes hands on every list of at most length of these nodes.
func eachNodes(length int, of []impl.Node, do func([]impl.Node)) {
	var grow func([]impl.Node)
	grow = func(l []impl.Node) {
		do(l)
		for _, n := range of {
			if len(l) < length {
				grow(append(slices.Clone(l), n))
			}
		}
	}
	grow(nil)
}

// textsOf lays the texts of l together, with a mark where something else stands.
func textsOf(l []impl.Node) string {
	all := ""
	for _, n := range l {
		if n.Kind == impl.NdText {
			all += n.Text
		} else {
			all += "|"
		}
	}
	return all
}

func TestTextsThatWereMergedHaveWhatTheyHad(t *testing.T) {
	isText := func(n impl.Node) bool { return n.Kind == impl.NdText }
	of := []impl.Node{txt(""), txt("x"), txt("yz"), el("a", txt(""), txt("x"), txt("x")), note("n"), told("t", "")}
	eachNodes(5, of, func(l []impl.Node) {
		before := bareAll(l)
		got := impl.Merge(l)
		if !alike(l, before) {
			t.Fatalf("the list was %+v, and is %+v now", before, l)
		}
		if !alike(got, mergedOf(l)) {
			t.Errorf("Merge(%+v) = %+v, want %+v", l, got, mergedOf(l))
		}
		if textsOf(got) != textsOf(l) {
			t.Errorf("Merge(%+v) = %+v: it had %q", l, got, textsOf(l))
		}
		if !alike(slices.DeleteFunc(slices.Clone(got), isText), slices.DeleteFunc(slices.Clone(l), isText)) {
			t.Errorf("Merge(%+v) = %+v: what is no text is another one", l, got)
		}
		for i, n := range got {
			if isText(n) && (n.Text == "" || i > 0 && isText(got[i-1])) {
				t.Errorf("Merge(%+v) = %+v: the text %d", l, got, i)
			}
		}
		wantMerge(t, got, got...)
	})
}

func TestMergedKidsAreRight(t *testing.T) {
	of := []impl.Node{txt(""), txt("x"), el("a", txt("x")), note("n")}
	eachNodes(4, of, func(l []impl.Node) {
		wantAlone(t, true, el("a", impl.Merge(l)...))
		wantAlone(t, alike(l, impl.Merge(l)), el("a", l...))
	})
}

// spoil writes into all that a list reaches, behind its end, too.
func spoil(l []impl.Node) {
	for i := range l[:cap(l)] {
		n := &l[:cap(l)][i]
		spoil(n.Kids)
		for j := range n.Decls[:cap(n.Decls)] {
			n.Decls[:cap(n.Decls)][j] = decl("written", "w")
		}
		for j := range n.Attrs[:cap(n.Attrs)] {
			n.Attrs[:cap(n.Attrs)][j] = attr("written", "w", "w", "w")
		}
		*n = impl.Node{Kind: 7, Text: "written"}
	}
}

// roomy is a list of nodes with lists at two depths, with room behind each of them.
func roomy() []impl.Node {
	inner := impl.Node{Kind: impl.NdEl, Local: "in", Decls: declsOf("p", "q", "behind")[:2], Attrs: plainAttrs(4)[:2], Kids: []impl.Node{el("k", txt("x")), txt("behind")}[:1]}
	outer := impl.Node{Kind: impl.NdEl, Local: "out", Decls: declsOf("r", "behind")[:1], Attrs: plainAttrs(3)[:1], Kids: []impl.Node{txt("t"), inner, note("behind")}[:2]}
	text := txt("x")
	text.Attrs, text.Kids = plainAttrs(2)[:1], []impl.Node{el("under")}
	return []impl.Node{txt("x"), txt("y"), outer, note("n"), text, txt("behind"), el("behind")}[:5]
}

func TestMergeSharesNothing(t *testing.T) {
	whole := func(l []impl.Node) []impl.Node { return l[:cap(l)] }
	want := []impl.Node{txt("xy"), roomy()[2], note("n"), roomy()[4]}
	l := roomy()
	got := impl.Merge(l)
	if !alike(got, want) {
		t.Fatalf("Merge = %+v", got)
	}
	spoil(got)
	if !alike(whole(l), whole(roomy())) || !alike(whole(l[2].Kids), whole(roomy()[2].Kids)) {
		t.Error("what is written into the answer is seen in what was handed in")
	}
	if !slices.Equal(l[2].Decls[:2], declsOf("r", "behind")) || !slices.Equal(l[2].Attrs[:3], plainAttrs(3)) || !slices.Equal(l[2].Kids[1].Decls[:3], declsOf("p", "q", "behind")) {
		t.Error("what lies behind a list was written")
	}
	got = impl.Merge(l)
	spoil(l)
	if !alike(got, want) {
		t.Errorf("the answer hangs on what is written later: %+v", got)
	}
}

// Two nodes of l may have the same lists; in the answer they are apart.
func TestMergeOfNodesThatShareLists(t *testing.T) {
	n := roomy()[2]
	got := impl.Merge([]impl.Node{n, n, el("w", n, n)})
	spoil(got[0].Kids)
	spoil(got[2].Kids[0].Kids)
	got[0].Decls[0], got[2].Kids[0].Attrs[0] = decl("written", "w"), attr("written", "w", "w", "w")
	if !alike([]impl.Node{got[1], got[2].Kids[1]}, []impl.Node{n, n}) || !alike([]impl.Node{n}, roomy()[2:3]) {
		t.Error("two lists of one answer share memory")
	}
}

func TestNodesAreLeftAsTheyAre(t *testing.T) {
	for _, n := range append(manyNodes(), oneOfEach()...) {
		before := bare(n)
		room := declsOf("p", "q", "behind", "behind", "behind", "behind")
		impl.NodeOk(n)
		impl.TreeOk(n)
		impl.FitsIn(n, room[:2])
		impl.SameNode(n, n)
		impl.CountOf(n)
		if !alike([]impl.Node{n}, []impl.Node{before}) {
			t.Errorf("the node was %+v, and is %+v now", before, n)
		}
		if !slices.Equal(room, declsOf("p", "q", "behind", "behind", "behind", "behind")) {
			t.Errorf("what holds outside is %q now", room)
		}
	}
}

func TestNodesLookAtNothingBehindTheEnd(t *testing.T) {
	n := impl.Node{Kind: impl.NdEl, Local: "a", Decls: declsOf("p", "p")[:1], Attrs: append(plainAttrs(2), impl.Attr{})[:2], Kids: []impl.Node{txt("x"), txt("behind"), doc()}[:1]}
	wantAlone(t, true, n)
	wantFits(t, true, n)
	wantCount(t, 4, n)
	wantTree(t, true, doc(n))
	wantSame(t, true, n, bare(n))
	wantMerge(t, []impl.Node{txt("x"), txt("behind")}[:1], txt("x"))
	wantFits(t, false, elIn("behind", "of behind"), declsOf("p", "behind")[:1]...)
}
