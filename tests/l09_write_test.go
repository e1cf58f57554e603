package tests

import (
	"cmp"
	"hash/fnv"
	"math"
	"slices"
	"strconv"
	"strings"
	"testing"

	"loop.example/g00484/impl"
)

// plainWritten is another way to the text of a right node: what is still to come, texts and nodes, stands in one list.
func plainWritten(n impl.Node) string {
	s := ""
	for ahead := []any{n}; len(ahead) > 0; {
		first := ahead[0]
		ahead = ahead[1:]
		switch x := first.(type) {
		case string:
			s += x
		case impl.Node:
			ahead = append(plainPieces(x), ahead...)
		}
	}
	return s
}

func plainPieces(n impl.Node) []any {
	var kids []any
	for _, k := range n.Kids {
		kids = append(kids, k)
	}
	switch n.Kind {
	case impl.NdText:
		return []any{escOf(n.Text, textEsc)}
	case impl.NdNote:
		return []any{"<!--" + n.Text + "-->"}
	case impl.NdTold:
		return []any{"<?" + joined(" ", n.Local, n.Text) + "?>"}
	case impl.NdDoc:
		return kids
	}
	name := joined(":", n.Pre, n.Local)
	start := "<" + name
	for _, d := range n.Decls {
		start += " " + joined(":", "xmlns", d.Pre) + "=\"" + escOf(d.Uri, attrEsc) + "\""
	}
	for _, a := range n.Attrs {
		start += " " + joined(":", a.Pre, a.Local) + "=\"" + escOf(a.Val, attrEsc) + "\""
	}
	if len(kids) == 0 {
		return []any{start + "/>"}
	}
	return append(append([]any{start + ">"}, kids...), "</"+name+">")
}

// joined has what stands between just where there is something on both sides.
func joined(between string, one string, other string) string {
	return strings.Join(slices.DeleteFunc([]string{one, other}, func(s string) bool { return s == "" }), between)
}

func hashed(s string) int {
	h := fnv.New32a()
	h.Write([]byte(s))
	return int(h.Sum32())
}

// noHash is the HashOf of nothing.
const noHash = 2166136261

// wantWrites asks for the text of n, by itself and among others, and for its HashOf.
func wantWrites(t *testing.T, n impl.Node, want string) {
	t.Helper()
	if got := impl.WriteNode(n); got != want {
		t.Errorf("WriteNode(%+v) = %q; want %q", n, got, want)
	}
	wantWritesAll(t, []impl.Node{n}, want)
	wantWritesAll(t, []impl.Node{n, txt("|"), n}, want+"|"+want)
	if got := impl.HashOf(n); got != hashed(want) {
		t.Errorf("HashOf(%+v) = %d; want %d", n, got, hashed(want))
	}
	wantUnlike(t, []impl.Node{n, n}, 1)
}

func wantWritesAll(t *testing.T, l []impl.Node, want string) {
	t.Helper()
	if got := impl.WriteAll(l); got != want {
		t.Errorf("WriteAll(%+v) = %q; want %q", l, got, want)
	}
}

// wantUnlike asks how many have a HashOf of their own.
func wantUnlike(t *testing.T, l []impl.Node, want int) {
	t.Helper()
	if got := impl.Apart(l); got != want {
		t.Errorf("Apart(%+v) = %d; want %d", l, got, want)
	}
}

// wantWritesWithin has the node deeper, and beside others, too.
func wantWritesWithin(t *testing.T, n impl.Node, want string) {
	t.Helper()
	wantWrites(t, n, want)
	wantWrites(t, el("w", n), "<w>"+want+"</w>")
	wantWrites(t, el("w", note("n"), el("w", el("w"), n), el("w")), "<w><!--n--><w><w/>"+want+"</w><w/></w>")
	wantWrites(t, doc(el("w", n), told("t", "")), "<w>"+want+"</w><?t?>")
}

// wantBack asks that a right tree comes back of its text, however each line end is told there.
func wantBack(t *testing.T, n impl.Node) {
	t.Helper()
	s := impl.WriteNode(n)
	if len(s) > impl.MaxDoc {
		wantNoTreeOf(t, s)
		return
	}
	if strings.Contains(s, "\r") {
		t.Errorf("WriteNode(%+v) = %q, which is not as Norm has it", n, s)
	}
	for _, told := range []string{s, strings.ReplaceAll(s, "\n", "\r"), strings.ReplaceAll(s, "\n", "\r\n"), byTurns(s)} {
		got, h, ok := impl.ReadTree(told)
		if !ok || !alike([]impl.Node{got}, []impl.Node{n}) || !impl.SameNode(got, n) || !sameHead(h, impl.Head{}) {
			t.Errorf("ReadTree(%q) = %+v, %+v, %v; want %+v", told, got, h, ok, n)
		}
	}
}

// byTurns tells one line end as 13 and 10, the next one as 13.
func byTurns(s string) string {
	out := ""
	for i, line := range strings.Split(s, "\n") {
		out += []string{"\r", "\r\n"}[i%2] + line
	}
	return strings.TrimPrefix(out, "\r")
}

// wantTreeBack asks that n is a right tree of just this text, and comes back of it.
func wantTreeBack(t *testing.T, n impl.Node, want string) {
	t.Helper()
	wantTree(t, true, n)
	wantWrites(t, n, want)
	wantBack(t, n)
}

func TestWriteNodeOfElements(t *testing.T) {
	for _, x := range []struct {
		n    impl.Node
		want string
	}{
		{el("a"), "<a/>"},
		{el("a", txt("x")), "<a>x</a>"},
		{el("a", txt(" ")), "<a> </a>"},
		{el("a", txt("\n")), "<a>\n</a>"},
		{el("a", el("b")), "<a><b/></a>"},
		{el("a", el("a")), "<a><a/></a>"},
		{el("a", el("b"), el("c"), el("b")), "<a><b/><c/><b/></a>"},
		{el("a", el("b", el("c")), el("d")), "<a><b><c/></b><d/></a>"},
		{el("a", el("b", txt("x")), txt("y"), el("b", txt("z"))), "<a><b>x</b>y<b>z</b></a>"},
		{el("a", txt("x"), el("b"), txt("y")), "<a>x<b/>y</a>"},
		{el("a", note("n")), "<a><!--n--></a>"},
		{el("a", note(" n "), note("m")), "<a><!-- n --><!--m--></a>"},
		{el("a", told("t", "go")), "<a><?t go?></a>"},
		{el("a", told("t", "")), "<a><?t?></a>"},
		{el("a", txt("x"), note("n"), txt("y"), told("t", "z"), txt("w")), "<a>x<!--n-->y<?t z?>w</a>"},
		{withAttrs(el("a"), attr("", "k", "", "v")), "<a k=\"v\"/>"},
		{withAttrs(el("a"), attr("", "k", "", "")), "<a k=\"\"/>"},
		{withAttrs(el("a", txt("x")), attr("", "j", "", "1"), attr("", "k", "", "2")), "<a j=\"1\" k=\"2\">x</a>"},
		{withAttrs(el("a"), plainAttrs(5)...), "<a ka=\"\" kb=\"\" kc=\"\" kd=\"\" ke=\"\"/>"},
		{withDecls(el("a"), decl("", "")), "<a xmlns=\"\"/>"},
		{withDecls(elIn("", "u"), decl("", "u")), "<a xmlns=\"u\"/>"},
		{withDecls(elIn("", "u", txt("x")), decl("", "u")), "<a xmlns=\"u\">x</a>"},
		{withDecls(el("a"), decl("p", "u")), "<a xmlns:p=\"u\"/>"},
		{withDecls(elIn("p", "u"), decl("p", "u")), "<p:a xmlns:p=\"u\"/>"},
		{withDecls(elIn("p", "u", txt("x")), decl("p", "u")), "<p:a xmlns:p=\"u\">x</p:a>"},
		{withDecls(elIn("q", "v", inSpace("p", "b", "u")), decl("p", "u"), decl("q", "v")), "<q:a xmlns:p=\"u\" xmlns:q=\"v\"><p:b/></q:a>"},
		{withDecls(elIn("", "w"), decl("", "w"), decl("p", "u"), decl("q", "u"), decl("r", "v")), "<a xmlns=\"w\" xmlns:p=\"u\" xmlns:q=\"u\" xmlns:r=\"v\"/>"},
		{withAttrs(withDecls(el("a"), decl("p", "u")), attr("p", "k", "u", "v")), "<a xmlns:p=\"u\" p:k=\"v\"/>"},
		{withAttrs(withDecls(el("a"), decl("p", "v"), decl("q", "u")), attr("", "z", "", "1"), attr("q", "b", "u", "2"), attr("p", "a", "v", "3")), "<a xmlns:p=\"v\" xmlns:q=\"u\" z=\"1\" q:b=\"2\" p:a=\"3\"/>"},
		{withAttrs(withDecls(elIn("p", "u", withAttrs(elIn("p", "u"), attr("p", "k", "u", "")), txt("x")), decl("p", "u")), attr("", "k", "", "v")), "<p:a xmlns:p=\"u\" k=\"v\"><p:a p:k=\"\"/>x</p:a>"},
		{withDecls(elIn("", "u", withDecls(el("b", el("c")), decl("", "")), elIn("", "u")), decl("", "u")), "<a xmlns=\"u\"><b xmlns=\"\"><c/></b><a/></a>"},
	} {
		wantWritesWithin(t, x.n, x.want)
		wantTreeBack(t, doc(x.n), x.want)
		wantTreeBack(t, doc(el("w", x.n, x.n)), "<w>"+x.want+x.want+"</w>")
	}
}

func TestWriteNodeOfEachKindByItself(t *testing.T) {
	full := "<p:a xmlns=\"v\" xmlns:p=\"u\" k=\"v\" p:k=\"w\">x<b/><!--n-->y<?t z?></p:a>"
	for kind, want := range []string{"<!--n-->" + full + "<?t x?>", full, "x", "<!--n-->", "<?t x?>"} {
		n := oneOfEach()[kind]
		if n.Kind != kind {
			t.Fatalf("the node %d is of the kind %d", kind, n.Kind)
		}
		wantWrites(t, n, want)
		if kind != impl.NdDoc {
			wantWritesWithin(t, n, want)
		}
	}
	wantWrites(t, note(""), "<!---->")
	wantWrites(t, note(" n\n"), "<!-- n\n-->")
	wantWrites(t, told("t", ""), "<?t?>")
	wantWrites(t, told("t", "x  y "), "<?t x  y ?>")
	wantWrites(t, told("t", "?"), "<?t ??>")
	wantWrites(t, txt(" "), " ")
	wantWrites(t, txt("\n"), "\n")
	wantWrites(t, txt("\r"), "&#13;")
	wantWrites(t, txt("x]]>y"), "x]]&gt;y")
}

func TestWriteNodeOfWholeTexts(t *testing.T) {
	wantTreeBack(t, doc(el("a")), "<a/>")
	wantTreeBack(t, doc(note("n"), el("a")), "<!--n--><a/>")
	wantTreeBack(t, doc(el("a"), note("n")), "<a/><!--n-->")
	wantTreeBack(t, doc(told("t", ""), el("a", txt("x"))), "<?t?><a>x</a>")
	wantTreeBack(t, doc(el("a"), told("t", "go")), "<a/><?t go?>")
	wantTreeBack(t, doc(note("1"), told("t", "2"), note(""), el("a"), told("u", ""), note("3"), told("xmlx", "version=\"1.0\"")), "<!--1--><?t 2?><!----><a/><?u?><!--3--><?xmlx version=\"1.0\"?>")
	eachBeside(2, func(_ string, ahead []impl.Node) {
		eachBeside(2, func(_ string, behind []impl.Node) {
			n := doc(slices.Concat(ahead, []impl.Node{el("a", txt("x"))}, behind)...)
			wantTreeBack(t, n, impl.WriteAll(ahead)+"<a>x</a>"+impl.WriteAll(behind))
		})
	})
	// Among others, too, and without anything between.
	wantWritesAll(t, []impl.Node{doc(note("n"), el("a")), txt("x"), doc(el("a"), told("t", ""))}, "<!--n--><a/>x<a/><?t?>")
}

func TestWriteNodeOfNames(t *testing.T) {
	for _, s := range plainNames {
		wantTreeBack(t, doc(el(s)), "<"+s+"/>")
		wantTreeBack(t, doc(el(s, txt("x"))), "<"+s+">x</"+s+">")
		wantTreeBack(t, doc(withDecls(inSpace("p", s, "u", txt("x")), decl("p", "u"))), "<p:"+s+" xmlns:p=\"u\">x</p:"+s+">")
		wantTreeBack(t, doc(withAttrs(withDecls(el("a"), decl("p", "u")), attr("p", s, "u", ""))), "<a xmlns:p=\"u\" p:"+s+"=\"\"/>")
		if s != "xmlns" {
			wantTreeBack(t, doc(withAttrs(el("a"), attr("", s, "", "v"))), "<a "+s+"=\"v\"/>")
		}
		if s != "xml" {
			wantTreeBack(t, doc(told(s, ""), el("a", told(s, "x"))), "<?"+s+"?><a><?"+s+" x?></a>")
		}
		if !strings.HasPrefix(s, "xml") {
			wantTreeBack(t, doc(withDecls(withAttrs(elIn(s, "u", elIn(s, "u", txt("x"))), attr(s, "k", "u", "")), decl(s, "u"))), "<"+s+":a xmlns:"+s+"=\"u\" "+s+":k=\"\"><"+s+":a>x</"+s+":a></"+s+":a>")
		}
	}
}

// The space of a name is not written there, but where its part ahead is declared.
func TestSpacesAreNotWritten(t *testing.T) {
	for _, uri := range []string{"u", "v", "<>&\"\n"} {
		wantWrites(t, elIn("", uri), "<a/>")
		wantWrites(t, elIn("p", uri, txt("x")), "<p:a>x</p:a>")
		wantWrites(t, withAttrs(el("a"), attr("p", "k", uri, "v")), "<a p:k=\"v\"/>")
	}
	wantWrites(t, elIn("", ""), "<a/>")
	// Right, but not in nothing: it is written all the same, and no text of a tree.
	for _, n := range []impl.Node{elIn("p", "u"), withAttrs(el("a"), attr("p", "k", "u", "")), withDecls(elIn("p", "v"), decl("p", "u")), withDecls(elIn("q", "u"), decl("p", "u"))} {
		wantTree(t, false, doc(n))
		wantWrites(t, doc(n), plainWritten(n))
		if impl.WriteNode(doc(n)) == "" {
			t.Errorf("nothing is written of %+v", n)
		}
	}
	got, _, ok := impl.ReadTree(impl.WriteNode(doc(withDecls(elIn("p", "v"), decl("p", "u")))))
	if !ok || got.Kids[0].Uri != "u" {
		t.Errorf("what is read is %+v, %v", got, ok)
	}
}

func TestWriteNodeOfEachSign(t *testing.T) {
	signs := []int{0x2028, 0x2029, 0x3042, 0xD7FF, 0xE000, 0xFEFF, 0xFFFD, 0x10000, 0x10FFFF}
	for n := range 0x400 {
		if impl.IsSign(n) {
			signs = append(signs, n)
		}
	}
	for _, n := range signs {
		s := impl.SignText(n)
		inText, inAttr := s, s
		switch s {
		case "&":
			inText, inAttr = "&amp;", "&amp;"
		case "<":
			inText, inAttr = "&lt;", "&lt;"
		case ">":
			inText, inAttr = "&gt;", "&gt;"
		case "\r":
			inText, inAttr = "&#13;", "&#13;"
		case "\t":
			inAttr = "&#9;"
		case "\n":
			inAttr = "&#10;"
		case "\"":
			inAttr = "&quot;"
		}
		wantTreeBack(t, doc(el("a", txt(s))), "<a>"+inText+"</a>")
		wantTreeBack(t, doc(withAttrs(el("a"), attr("", "k", "", s))), "<a k=\""+inAttr+"\"/>")
		wantTreeBack(t, doc(withDecls(elIn("", s), decl("", s))), "<a xmlns=\""+inAttr+"\"/>")
		wantTreeBack(t, doc(withDecls(el("a"), decl("p", s))), "<a xmlns:p=\""+inAttr+"\"/>")
		if s != "\r" && s != "-" {
			wantTreeBack(t, doc(note(s), el("a", note(s))), "<!--"+s+"--><a><!--"+s+"--></a>")
		}
		if s != "\r" {
			wantTreeBack(t, doc(el("a", told("t", "x"+s))), "<a><?t x"+s+"?></a>")
		}
	}
}

// What a note or what is told has stands there as it is.
func TestNothingIsEscapedInMarks(t *testing.T) {
	for _, s := range []string{"<&>\"'\t\n]]>", "&lt;&#13;&nope;", "<a k='1'/>", "<![CDATA[x]]>", "?", "<?x"} {
		wantTreeBack(t, doc(note(s), el("a", note(s))), "<!--"+s+"--><a><!--"+s+"--></a>")
		wantTreeBack(t, doc(told("t", s), el("a", told("t", s))), "<?t "+s+"?><a><?t "+s+"?></a>")
	}
	for _, s := range []string{"?>", "-a", " ", ">", "->", "!"} {
		wantTreeBack(t, doc(note(s), el("a")), "<!--"+s+"--><a/>")
	}
	for _, s := range []string{"--", "-->", "<!--", "-", ">", "? >", "x ", "x\t\n", "=\"1\""} {
		wantTreeBack(t, doc(told("t", s), el("a")), "<?t "+s+"?><a/>")
	}
}

// Each list of blanks comes back as it was, in an Attr as in a text: none is turned, and none is lost.
func TestLineEndsComeBack(t *testing.T) {
	for _, s := range allOf([]string{"\t", "\n", "\r", " ", "x", "\""}, 4) {
		wantTreeBack(t, doc(withAttrs(el("a"), attr("", "k", "", s))), "<a k=\""+escOf(s, attrEsc)+"\"/>")
		wantBack(t, doc(withAttrs(el("a", el("b", txt("x"+s+"y"))), attr("", "j", "", s+s), attr("", "k", "", "x"+s))))
		if s != "" {
			wantTreeBack(t, doc(el("a", txt(s))), "<a>"+escOf(s, textEsc)+"</a>")
			wantTreeBack(t, doc(withDecls(elIn("p", s), decl("p", s))), "<p:a xmlns:p=\""+escOf(s, attrEsc)+"\"/>")
			wantTreeBack(t, doc(withDecls(elIn("", s, elIn("", s)), decl("", s))), "<a xmlns=\""+escOf(s, attrEsc)+"\"><a/></a>")
			wantBack(t, doc(withAttrs(withDecls(el("a"), decl("p", s)), attr("p", "k", s, s))))
		}
	}
	for _, s := range allOf([]string{"&", "<", ">", "\"", "'", ";", "amp;", "#13;", "]]", "\n"}, 3) {
		if s != "" {
			wantTreeBack(t, doc(withAttrs(el("a", txt(s)), attr("", "k", "", s))), "<a k=\""+escOf(s, attrEsc)+"\">"+escOf(s, textEsc)+"</a>")
			wantBack(t, doc(withDecls(elIn("p", s), decl("", s), decl("p", s))))
		}
	}
}

func TestElementsWhoseKidsSayNothing(t *testing.T) {
	wantTreeBack(t, doc(el("a", note(""))), "<a><!----></a>")
	wantTreeBack(t, doc(el("a", told("t", ""))), "<a><?t?></a>")
	wantTreeBack(t, doc(el("a", el("b", note("")), note(""), told("t", ""))), "<a><b><!----></b><!----><?t?></a>")
	none := impl.Node{Kind: impl.NdEl, Local: "a", Decls: []impl.Decl{}, Attrs: []impl.Attr{}, Kids: []impl.Node{}}
	wantWritesWithin(t, none, "<a/>")
	// What lies behind a list's end is not there.
	none.Decls, none.Attrs, none.Kids = declsOf("p")[:0], plainAttrs(1)[:0], []impl.Node{el("behind")}[:0]
	wantWritesWithin(t, none, "<a/>")
	// A text that is empty may not be, and so there is nothing at all.
	for _, n := range []impl.Node{el("a", txt("")), el("a", txt(""), el("b")), el("a", el("b", txt(""))), doc(el("a", txt(""))), doc(el("a", el("b"), txt("")))} {
		wantNothing(t, n)
	}
}

func TestWhatIsEmpty(t *testing.T) {
	wantNothing(t, doc())
	wantNothing(t, impl.Node{})
	wantNothing(t, doc(note("n"), told("t", "")))
	wantNothing(t, txt(""))
	wantNothing(t, told("", ""))
	wantNothing(t, el(""))
	wantWritesAll(t, []impl.Node{{}}, "")
	wantWritesAll(t, []impl.Node{{}, doc(), txt("")}, "")
	wantWritesAll(t, []impl.Node{el("a"), doc(), doc(el("b")), {}, txt("x")}, "<a/><b/>x")
}

func TestWriteNodeOfAsMuchAsMayBe(t *testing.T) {
	for _, nodes := range []int{impl.MaxNodes - 1, impl.MaxNodes, impl.MaxNodes + 1} {
		want := "<a>" + strings.Repeat("<b/>", nodes-1) + "</a>"
		wantWrites(t, flat(nodes), onlyIf(nodes <= impl.MaxNodes, want))
		wantWrites(t, doc(flat(nodes-1)), onlyIf(nodes <= impl.MaxNodes, strings.Replace(want, "<b/>", "", 1)))
		// An Attr is one of them.
		k := withAttrs(flat(nodes-2), plainAttrs(2)...)
		wantWrites(t, k, onlyIf(nodes <= impl.MaxNodes, "<a ka=\"\" kb=\"\">"+strings.Repeat("<b/>", nodes-3)+"</a>"))
	}
	for _, deep := range []int{impl.MaxDeep - 1, impl.MaxDeep, impl.MaxDeep + 1, 2 * impl.MaxDeep} {
		want := strings.Repeat("<a>", deep) + "x" + strings.Repeat("</a>", deep)
		wantWrites(t, chain(deep, txt("x")), onlyIf(deep <= impl.MaxDeep, want))
		wantWrites(t, doc(chain(deep, txt("x"))), onlyIf(deep <= impl.MaxDeep, want))
		wantWrites(t, chain(deep), onlyIf(deep <= impl.MaxDeep, strings.Repeat("<a>", deep-1)+"<a/>"+strings.Repeat("</a>", deep-1)))
	}
	wantBack(t, doc(flat(impl.MaxNodes-1)))
	wantBack(t, doc(chain(impl.MaxDeep, txt("x"), told("t", ""))))
	for n := range 2 * impl.MaxAttrs {
		want := "<a"
		for i := range n {
			want += " k" + string(rune('a'+i)) + "=\"\""
		}
		wantWrites(t, withAttrs(el("a"), plainAttrs(n)...), onlyIf(n <= impl.MaxAttrs, want+"/>"))
	}
	for n, pres := range [][]string{{}, {""}, {"", "p"}, {"", "p", "q"}, {"", "p", "q", "r"}, {"", "p", "q", "r", "s"}} {
		want := "<a"
		for _, pre := range pres {
			want += " " + joined(":", "xmlns", pre) + "=\"of " + pre + "\""
		}
		wantWrites(t, withDecls(el("a"), declsOf(pres...)...), onlyIf(n <= impl.MaxDecls, want+"/>"))
	}
	full := withAttrs(withDecls(inSpace("q", "a", "v"), decl("", "u"), decl("p", "u"), decl("q", "v"), decl("r", "w")), attr("", "j", "", "1"), attr("", "k", "", "2"), attr("p", "j", "u", "3"), attr("q", "j", "v", "4"), attr("r", "j", "w", "5"))
	wantTreeBack(t, doc(full), "<q:a xmlns=\"u\" xmlns:p=\"u\" xmlns:q=\"v\" xmlns:r=\"w\" j=\"1\" k=\"2\" p:j=\"3\" q:j=\"4\" r:j=\"5\"/>")
}

func onlyIf(ok bool, s string) string {
	if ok {
		return s
	}
	return ""
}

func TestWriteNodeOfMaxText(t *testing.T) {
	just := strings.Repeat("x", impl.MaxText)
	wantTreeBack(t, doc(el("a", txt(just))), "<a>"+just+"</a>")
	wantTreeBack(t, doc(withAttrs(el("a"), attr("", "k", "", just))), "<a k=\""+just+"\"/>")
	wantTreeBack(t, doc(el("a", note(just))), "<a><!--"+just+"--></a>")
	wantTreeBack(t, doc(el("a", told("t", just))), "<a><?t "+just+"?></a>")
	for _, n := range []impl.Node{txt(just + "x"), note(just + "x"), told("t", just+"x"), withAttrs(el("a"), attr("", "k", "", just+"x"))} {
		wantNothing(t, n)
	}
	for _, sign := range []string{"\"", "<", "\n", "\u3042"} {
		uri := strings.Repeat(sign, impl.MaxUri/len(sign))
		wantTreeBack(t, doc(withDecls(elIn("p", uri), decl("p", uri))), "<p:a xmlns:p=\""+escOf(uri, attrEsc)+"\"/>")
		wantNothing(t, withDecls(el("a"), decl("p", uri+sign)))
	}
}

// A text of just MaxDoc bytes is read as the same tree; one more is written, but read as none.
func TestWrittenTextsOfMaxDoc(t *testing.T) {
	for _, sign := range []string{"<", "&", "\"", "\r", "\n", "x", "\u00e9"} {
		s := strings.Repeat(sign, 100/len(sign))
		for _, a := range []impl.Node{el("a", txt(s)), withAttrs(el("a"), attr("", "k", "", s)), el("a", el("b", txt(s)), withAttrs(el("b"), attr("", "k", "", s)))} {
			long := func(n int) impl.Node {
				third := note(strings.Repeat("n", n/3))
				return doc(third, a, third, note(strings.Repeat("n", n-2*(n/3))))
			}
			room := impl.MaxDoc - len(plainWritten(long(0)))
			if room > 0 {
				wantMaxDoc(t, long(room), long(room+1))
			} else {
				t.Errorf("there is no room with %+v", a)
			}
		}
	}
	just := strings.Repeat("x", impl.MaxText)
	n := doc(el("a", txt(just), el("b"), txt(just), el("b"), txt(just)))
	wantTree(t, true, n)
	wantWrites(t, n, "<a>"+just+"<b/>"+just+"<b/>"+just+"</a>")
	wantNoTreeOf(t, impl.WriteNode(n))
	// As much as a text with marks can become.
	most := doc(el("a"))
	for range 11 {
		most.Kids[0].Kids = append(most.Kids[0].Kids, withAttrs(el("b"), attr("", "j", "", strings.Repeat("\"", impl.MaxText)), attr("", "k", "", strings.Repeat("\"", impl.MaxText))))
	}
	long := strings.Repeat("&quot;", impl.MaxText)
	wantWrites(t, most, "<a>"+strings.Repeat("<b j=\""+long+"\" k=\""+long+"\"/>", 11)+"</a>")
}

func wantMaxDoc(t *testing.T, just impl.Node, more impl.Node) {
	t.Helper()
	if s := impl.WriteNode(just); len(s) != impl.MaxDoc {
		t.Errorf("the text has %d bytes: %q", len(s), s)
	}
	if s := impl.WriteNode(more); len(s) != impl.MaxDoc+1 {
		t.Errorf("the longer text has %d bytes: %q", len(s), s)
	}
	wantTree(t, true, just)
	wantTree(t, true, more)
	wantBack(t, just)
	wantNoTreeOf(t, impl.WriteNode(more))
}

// wrongNodes are not NodeOk, each by one reason.
func wrongNodes() []impl.Node {
	uri := strings.Repeat("u", impl.MaxUri)
	text := strings.Repeat("x", impl.MaxText)
	l := []impl.Node{
		doc(), doc(note("n")), doc(el("a"), el("b")), doc(el("a"), txt("x")), doc(txt(" "), el("a")), doc(doc(el("a"))), doc(el("a"), doc(el("b"))), doc(note("--"), el("a")),
		{Kind: impl.NdDoc, Pre: "p", Kids: []impl.Node{el("a")}}, {Kind: impl.NdDoc, Local: "a", Kids: []impl.Node{el("a")}}, {Kind: impl.NdDoc, Uri: "u", Kids: []impl.Node{el("a")}}, {Kind: impl.NdDoc, Text: "x", Kids: []impl.Node{el("a")}}, withDecls(doc(el("a")), decl("p", "u")), withAttrs(doc(el("a")), plainAttrs(1)...),
		el(""), el("1"), el("a b"), el("p:a"), el("\xff"), el(strings.Repeat("a", impl.MaxName+1)),
		elIn("1", "u"), elIn("p:q", "u"), elIn("xml", "u"), elIn("xmlp", "u"), elIn(strings.Repeat("p", impl.MaxName+1), "u"),
		elIn("p", ""), elIn("p", uri+"u"), elIn("", uri+"u"), elIn("", "\x00"), elIn("p", "\xff"),
		withDecls(el("a"), decl("p", "")), withDecls(el("a"), decl("xml", "u")), withDecls(el("a"), decl("1", "u")), withDecls(el("a"), decl("p", uri+"u")), withDecls(el("a"), decl("p", "\xff")), withDecls(el("a"), declsOf("q", "p")...), withDecls(el("a"), declsOf("p", "p")...), withDecls(el("a"), declsOf("p", "")...), withDecls(el("a"), declsOf("a", "b", "c", "d", "e")...),
		withAttrs(el("a"), plainAttrs(6)...), withAttrs(el("a"), attr("", "k", "", ""), attr("", "j", "", "")), withAttrs(el("a"), attr("", "k", "", "1"), attr("", "k", "", "2")), withAttrs(el("a"), attr("p", "k", "u", ""), attr("", "k", "", "")), withAttrs(el("a"), attr("p", "k", "u", ""), attr("q", "k", "u", "")),
		withAttrs(el("a"), attr("p", "k", "", "")), withAttrs(el("a"), attr("", "k", "u", "")), withAttrs(el("a"), attr("", "xmlns", "", "")), withAttrs(el("a"), attr("xml", "k", "u", "")), withAttrs(el("a"), attr("1", "k", "u", "")), withAttrs(el("a"), attr("", "", "", "")), withAttrs(el("a"), attr("", "1", "", "")), withAttrs(el("a"), attr("p", "k:j", "u", "")), withAttrs(el("a"), attr("p", "k", uri+"u", "")), withAttrs(el("a"), attr("p", "k", "\xff", "")), withAttrs(el("a"), attr("", "k", "", text+"x")), withAttrs(el("a"), attr("", "k", "", "\x00")), withAttrs(el("a"), attr("", "k", "", "\xff")),
		el("a", txt("x"), txt("y")), el("a", doc(el("b"))), el("a", impl.Node{}), {Kind: impl.NdEl, Local: "a", Text: "x"},
		txt(""), txt("\x00"), txt("\xff"), txt("\uFFFE"), txt(text + "x"),
		note("--"), note("a--b"), note("-"), note("a-"), note("\r"), note("\x00"), note("\xff"), note(text + "x"),
		told("", ""), told("", "x"), told("1", ""), told("p:t", ""), told("xml", ""), told("XML", "x"), told("xMl", ""), told("t", " x"), told("t", "\n"), told("t", "?>"), told("t", "x?>y"), told("t", "x\r"), told("t", "\x00"), told("t", "\xff"), told("t", text+"x"),
		flat(impl.MaxNodes + 1), flat(1000), chain(impl.MaxDeep + 1), chain(1000), withAttrs(flat(impl.MaxNodes), plainAttrs(1)...),
	}
	for _, n := range []impl.Node{txt("x"), note("n"), told("t", "x")} {
		pre, local, uri, kids := n, n, n, n
		pre.Pre, local.Local, uri.Uri, kids.Kids = "p", "p:l", "u", []impl.Node{note("k")}
		l = append(l, pre, local, uri, kids, withDecls(n, decl("p", "u")), withAttrs(n, plainAttrs(1)...))
	}
	for _, kind := range strangeKinds {
		for _, n := range []impl.Node{{}, el("a", txt("x")), txt("x"), note("n"), told("t", "x"), doc(el("a"))} {
			n.Kind = kind
			l = append(l, n)
		}
	}
	return l
}

func wantNothing(t *testing.T, n impl.Node) {
	t.Helper()
	if impl.NodeOk(n) {
		t.Errorf("%+v is right", n)
	}
	wantWrites(t, n, "")
	if got := impl.HashOf(n); got != noHash {
		t.Errorf("HashOf(%+v) = %d", n, got)
	}
	wantWritesAll(t, []impl.Node{txt("x"), n, note("n"), n, n, el("a")}, "x<!--n--><a/>")
	wantUnlike(t, []impl.Node{txt("x"), n, note("n"), n, n, el("a")}, 4)
}

func TestNothingIsWrittenOfWhatIsNotRight(t *testing.T) {
	all := wrongNodes()
	for _, n := range all {
		wantNothing(t, n)
		wantNothing(t, el("w", n))
		wantNothing(t, doc(el("w", n)))
		wantNothing(t, el("w", txt("x"), n, el("w")))
		wantNothing(t, el("w", el("w"), el("w", el("w", el("w", el("w", n, el("w")))), el("w"))))
		wantNothing(t, doc(note("n"), el("w", el("w", n))))
		if n.Kind != impl.NdEl {
			wantNothing(t, doc(el("a"), n))
		}
	}
	wantWritesAll(t, all, "")
	wantUnlike(t, all, 1)
	wantUnlike(t, append(all, el("a")), 2)
}

// A list of Kids may hold itself: that is not right, and asking ends.
func TestNothingIsWrittenOfWhatHasNoEnd(t *testing.T) {
	kids := []impl.Node{el("a"), el("b")}
	kids[0].Kids, kids[1].Kids = kids, kids
	for _, n := range []impl.Node{kids[0], doc(kids[:1]...), el("c", kids...)} {
		if impl.WriteNode(n) != "" || impl.HashOf(n) != noHash {
			t.Error("something is written of what has no end")
		}
	}
	if impl.WriteAll(kids) != "" || impl.Apart(kids) != 1 || impl.WriteAll([]impl.Node{el("d"), kids[0], txt("x")}) != "<d/>x" {
		t.Error("what has no end, among others")
	}
	if n := chain(20000, txt("x")); impl.WriteNode(n) != "" || impl.HashOf(n) != noHash {
		t.Error("20000 elements one within the other")
	}
}

func TestWriteAll(t *testing.T) {
	wantWritesAll(t, nil, "")
	wantWritesAll(t, []impl.Node{}, "")
	wantWritesAll(t, []impl.Node{el("a")}, "<a/>")
	wantWritesAll(t, []impl.Node{el("a"), el("a")}, "<a/><a/>")
	// Each by itself: two texts beside each other are as good as one.
	wantWritesAll(t, []impl.Node{txt("x"), txt("y<"), txt("z")}, "xy&lt;z")
	wantWritesAll(t, []impl.Node{txt("x"), el("a", txt("y")), note("n"), told("t", ""), doc(el("b"))}, "x<a>y</a><!--n--><?t?><b/>")
	wantWritesAll(t, []impl.Node{txt("x"), el("behind")}[:1], "x")
	// As many as may be are of each, not of all.
	wantWritesAll(t, slices.Repeat([]impl.Node{flat(impl.MaxNodes)}, 3), strings.Repeat("<a>"+strings.Repeat("<b/>", impl.MaxNodes-1)+"</a>", 3))
	wantWritesAll(t, slices.Repeat([]impl.Node{el("a")}, 1000), strings.Repeat("<a/>", 1000))
	of := []impl.Node{el("a", txt("\r")), txt("x"), txt(""), doc(note("n"), el("b")), note("-"), told("t", "x")}
	eachNodes(4, of, func(l []impl.Node) {
		want := ""
		for _, n := range l {
			want += impl.WriteNode(n)
		}
		wantWritesAll(t, l, want)
	})
}

func TestHashOf(t *testing.T) {
	for s, want := range map[string]int{"a": 0xe40c292c, "b": 0xe70c2de5, "foobar": 0xbf9cf968, "fo": 0x6222e842, "hello": 0x4f9f2cab} {
		if got := impl.HashOf(txt(s)); got != want {
			t.Errorf("HashOf of the text %q = %x; want %x", s, got, want)
		}
	}
	// Of the bytes as they are written.
	for n, want := range map[*impl.Node]string{{Kind: impl.NdText, Text: "<\r\n"}: "&lt;&#13;\n", {Kind: impl.NdNote}: "<!---->", {Kind: impl.NdTold, Local: "t", Text: "\u3042"}: "<?t \u3042?>"} {
		if got := impl.HashOf(*n); got != hashed(want) {
			t.Errorf("HashOf(%+v) = %d; want %d", *n, got, hashed(want))
		}
	}
	low, high := math.MaxInt, math.MinInt
	for n := range 100000 {
		got := impl.HashOf(told("t", strings.Repeat("x", n%7)+impl.SignText(0x3042+n%500)+strings.Repeat("y", n/5000)))
		low, high = min(low, got), max(high, got)
	}
	if low < 0 || high > 4294967295 || low > 1<<24 || high < 255<<24 {
		t.Errorf("HashOf goes from %d to %d", low, high)
	}
}

func TestHashOfNodesThatAreTheSame(t *testing.T) {
	l, again := rightNodes(), rightNodes()
	for i, a := range l {
		for j, b := range again {
			if same := impl.HashOf(a) == impl.HashOf(b); same != (i == j) {
				t.Errorf("HashOf(%+v) and HashOf(%+v): the same is %v", a, b, same)
			}
		}
		// None and empty are the same value.
		if impl.HashOf(a) != impl.HashOf(bare(a)) {
			t.Errorf("HashOf(%+v) hangs on what is empty", a)
		}
	}
	// Unlike nodes of one text.
	for _, two := range [][2]impl.Node{{elIn("", "u"), elIn("", "v")}, {elIn("p", "u"), elIn("p", "v")}, {el("a"), doc(el("a"))}, {withAttrs(el("a"), attr("p", "k", "u", "")), withAttrs(el("a"), attr("p", "k", "v", ""))}, {doc(), txt("")}} {
		if impl.SameNode(two[0], two[1]) || impl.HashOf(two[0]) != impl.HashOf(two[1]) {
			t.Errorf("HashOf of %+v and of %+v", two[0], two[1])
		}
		wantUnlike(t, two[:], 1)
	}
}

// rightNodes have each a text of its own.
func rightNodes() []impl.Node {
	return []impl.Node{
		el("a"), el("b"), el("A"), el("ab"), el("a", el("b")), el("a", el("b"), el("b")), el("a", el("b", el("b"))), el("a", txt("b")), el("a", note("b")), el("a", told("b", "")), el("a", txt("b"), el("b")), el("a", el("b"), txt("b")),
		elIn("p", "u"), elIn("q", "u"), withDecls(elIn("p", "u"), decl("p", "u")), withDecls(elIn("p", "u"), decl("p", "v")), withDecls(elIn("p", "u"), decl("", "u")), withDecls(elIn("p", "u"), decl("", "")), withDecls(elIn("p", "u"), decl("", "u"), decl("p", "u")),
		withAttrs(el("a"), attr("", "k", "", "")), withAttrs(el("a"), attr("", "k", "", "v")), withAttrs(el("a"), attr("", "k", "", "\t")), withAttrs(el("a"), attr("", "k", "", "\n")), withAttrs(el("a"), attr("", "k", "", " ")), withAttrs(el("a"), attr("", "j", "", "")), withAttrs(el("a"), attr("p", "k", "u", "")), withAttrs(el("a"), attr("", "j", "", ""), attr("", "k", "", "")),
		txt("x"), txt("y"), txt("xy"), txt("yx"), txt("x "), txt(" x"), txt("\n"), txt("\r"), txt("\r\n"), txt("\n\r"), txt("&#13;"), txt("<a/>"), txt("&lt;a/&gt;"), txt("\u00e9"), txt("e\u0301"),
		note(""), note("x"), note("xy"), told("x", ""), told("x", "x"), told("xx", ""), told("x", "x "),
		doc(el("a"), note("x")), doc(note("x"), el("a")), doc(el("a"), told("x", "")), doc(note("x"), el("a"), note("x")),
	}
}

// plainApart is another way to the same: of those behind, those with the first one's text are taken away with it.
func plainApart(l []impl.Node) int {
	if len(l) == 0 {
		return 0
	}
	return 1 + plainApart(slices.DeleteFunc(slices.Clone(l), func(n impl.Node) bool { return impl.WriteNode(n) == impl.WriteNode(l[0]) }))
}

func TestApart(t *testing.T) {
	wantUnlike(t, nil, 0)
	wantUnlike(t, []impl.Node{}, 0)
	wantUnlike(t, []impl.Node{el("a")}, 1)
	wantUnlike(t, []impl.Node{{}}, 1)
	wantUnlike(t, []impl.Node{el("a"), el("a")}, 1)
	wantUnlike(t, []impl.Node{el("a"), el("b")}, 2)
	wantUnlike(t, []impl.Node{el("a"), el("b"), el("a"), el("b"), el("b")}, 2)
	wantUnlike(t, []impl.Node{el("a"), el("b")}[:1], 1)
	wantUnlike(t, rightNodes(), len(rightNodes()))
	wantUnlike(t, append(rightNodes(), rightNodes()...), len(rightNodes()))
	wantUnlike(t, append(append(rightNodes(), wrongNodes()...), rightNodes()...), len(rightNodes())+1)
	// All that is not right has one HashOf, wherever it stands.
	wantUnlike(t, []impl.Node{{}, txt(""), el("1"), {Kind: 7}}, 1)
	wantUnlike(t, []impl.Node{el("a"), txt(""), el("a"), doc()}, 2)
	// It is the HashOf that counts, all of it: unlike texts may have the same one, or just a part of it.
	for _, two := range [][2]string{{"costarring", "liquid"}, {"declinate", "macallums"}, {"altarage", "zinke"}} {
		wantUnlike(t, []impl.Node{txt(two[0]), txt(two[1])}, 1)
		wantUnlike(t, []impl.Node{txt(two[0]), note(two[0]), txt(two[1]), note(two[1]), txt(two[0])}, 3)
	}
	// Of these just the lowest bit is another one, or just the highest.
	for _, two := range [][2]string{{"rwlehe", "oftikm"}, {"lbnqif", "okwmpy"}, {"ecqqqr", "uquors"}, {"zgxzuy", "qohnvm"}} {
		wantUnlike(t, []impl.Node{txt(two[0]), txt(two[1])}, 2)
	}
	var many []impl.Node
	hashes := map[int]int{}
	for i := range 3000 {
		many = append(many, txt(strconv.Itoa(i)))
		hashes[hashed(strconv.Itoa(i))]++
	}
	wantUnlike(t, many, len(hashes))
	// In every order.
	of := []impl.Node{el("a"), el("a", txt("x")), doc(el("a")), txt("x"), txt(""), {Kind: 9}}
	eachNodes(5, of, func(l []impl.Node) {
		wantUnlike(t, l, plainApart(l))
	})
}

func TestWritingLeavesNodesAlone(t *testing.T) {
	all := slices.Concat(manyNodes(), oneOfEach(), wrongNodes(), rightNodes(), roomy(), []impl.Node{doc(roomy()...), el("a", roomy()...)})
	before := bareAll(all)
	for i, n := range all {
		impl.WriteNode(n)
		impl.HashOf(n)
		if !alike([]impl.Node{n}, before[i:i+1]) {
			t.Errorf("the node was %+v, and is %+v now", before[i], n)
		}
	}
	impl.WriteAll(all)
	impl.Apart(all)
	if !alike(all, before) {
		t.Error("a list is another one now")
	}
	whole := func(l []impl.Node) []impl.Node { return l[:cap(l)] }
	l := roomy()
	impl.WriteAll(l)
	impl.Apart(l)
	impl.WriteNode(el("a", l...))
	impl.HashOf(l[2])
	if !alike(whole(l), whole(roomy())) || !alike(whole(l[2].Kids), whole(roomy()[2].Kids)) || !slices.Equal(l[2].Decls[:2], declsOf("r", "behind")) || !slices.Equal(l[2].Attrs[:3], plainAttrs(3)) || !slices.Equal(l[2].Kids[1].Decls[:3], declsOf("p", "q", "behind")) {
		t.Error("what lies behind a list was written")
	}
	// Nor is it read.
	wantWritesAll(t, l[:3], "xy<out xmlns:r=\"of r\" ka=\"\">t<in xmlns:p=\"of p\" xmlns:q=\"of q\" ka=\"\" kb=\"\"><k>x</k></in></out>")
	wantUnlike(t, l[:3], 3)
	// Nothing is kept from one call to another.
	first := impl.WriteNode(l[2])
	impl.WriteNode(el("1", l...))
	spoil(l)
	wantWrites(t, roomy()[2], first)
}

// drawer draws the same numbers each time.
type drawer uint64

func (d *drawer) below(n int) int {
	*d = *d*6364136223846793005 + 1442695040888963407
	return int(*d>>33) % n
}

func (d *drawer) one(l ...string) string {
	return l[d.below(len(l))]
}

// some lays up to most of them together.
func (d *drawer) some(most int, l ...string) string {
	s := ""
	for range d.below(most + 1) {
		s += d.one(l...)
	}
	return s
}

func (d *drawer) beside() string {
	return d.some(3, " ", "\n", "\r\n", "\r", "<!--n-->", "<!---->", "<?t?>", "<?u go\n?>", "<!--x\r\ny-->")
}

// text is drawn of all that a tree is told by; not every one is a tree.
func (d *drawer) text() string {
	name := d.one("a", "b", "p:a")
	s := d.one("", "", textStarts[0], textStarts[1]) + d.beside()
	refs := []string{}
	if d.below(2) == 0 {
		s += "<!DOCTYPE " + name + " [<!ENTITY e '" + d.one("x", "", "&#13;", "\n", "&lt;", "\"") + "'>" + d.some(2, "<!ATTLIST a k CDATA '1\n'>", "<!ATTLIST b j ID #IMPLIED>", "<!ATTLIST b xmlns CDATA 'w'>", "<!ATTLIST p:a xmlns:q CDATA 'v'>", "<!ATTLIST a p:j CDATA '&#10;'>") + "]>" + d.beside()
		refs = append(refs, "&e;", "x&e;")
	}
	return s + d.element(name, 3, refs) + d.beside()
}

func (d *drawer) element(name string, deep int, refs []string) string {
	s := "<" + name
	if deep == 3 {
		s += d.one("", " xmlns:p='u'", " xmlns:p='u'\nxmlns:q=\"v\"", " xmlns:p='&#13;'\r\n", "\txmlns:p='u\n' xmlns:q='v' xmlns='w'")
	}
	for range d.below(4) {
		s += d.one(" ", "\n", "\r\n\t") + d.one("j", "k", "l", "p:j", "p:k", "xmlns", "xmlns:r") + d.one("=", " = ", "\r=") + d.val(refs)
	}
	s += d.one("", "", " ", "\n")
	if d.below(4) == 0 {
		return s + "/>"
	}
	s += ">"
	for range d.below(5) {
		switch {
		case d.below(3) > 0:
			s += d.some(2, append(refs, "x", " ", "\n", "\r\n", "\r", "&lt;", "&gt;", ">", "&amp;", "&quot;", "'", "&#13;", "&#10;", "]]&gt;", "\u3042", "<![CDATA[<&\r\n]]>", "<![CDATA[]]>", "<!--n\r-->", "<?t?>", "<?t go ?>")...)
		case deep > 0:
			s += d.element(d.one("a", "b", "p:a", "p:b", "a"), deep-1, refs)
		}
	}
	return s + "</" + name + d.one("", "", " ", "\r") + ">"
}

func (d *drawer) val(refs []string) string {
	quote := d.one("'", "\"")
	return quote + d.some(3, append(refs, "x", " ", "\n", "\r\n", "\r", "\t", "&#9;", "&#10;", "&#xD;", "&quot;", "&apos;", "&lt;", ">", "&amp;", "\u00e9")...) + quote
}

// What is read of a text, written, and read again, is the same.
func TestDrawnTextsAreReadAndWritten(t *testing.T) {
	d := drawer(1)
	read := 0
	for range 20000 {
		s := d.text()
		if !checkTree(t, s) {
			continue
		}
		read++
		n, _, _ := impl.ReadTree(s)
		wantWrites(t, n, plainWritten(n))
		if again, _, ok := impl.ReadTree(impl.WriteNode(n)); ok {
			wantWrites(t, again, impl.WriteNode(n))
		}
	}
	if read < 5000 {
		t.Errorf("only %d of the texts were trees", read)
	}
}

// tree is drawn of all that a node may have; not every one is right.
func (d *drawer) tree() impl.Node {
	var kids []impl.Node
	for range d.below(3) {
		kids = append(kids, d.mark())
	}
	kids = append(kids, d.node(nil, d.below(impl.MaxDeep)))
	for range d.below(3) {
		kids = append(kids, d.mark())
	}
	return doc(kids...)
}

func (d *drawer) mark() impl.Node {
	s := d.some(4, "x", " ", "\n", "\t", "<", ">", "&", "\"", "'", "-", "?", "]]>", "\u3042", "&#13;")
	if d.below(2) == 0 {
		return note(s)
	}
	return told(d.one("t", "u-1", "\u00e9", "xmlx"), s)
}

func (d *drawer) words(most int) string {
	return d.some(most, "x", "y", " ", "\n", "\r", "\r\n", "\t", "<", ">", "&", "\"", "'", "-->", "?>", "]]>", "\u00e9", "\u3042", "\U00010000", "&lt;", "&#13;")
}

func (d *drawer) node(outside []impl.Decl, deep int) impl.Node {
	n := impl.Node{Kind: impl.NdEl, Local: d.one("a", "b", "c-1")}
	for _, pre := range []string{"", "P", "p", "q"} {
		if d.below(4) == 0 {
			n.Decls = append(n.Decls, decl(pre, d.one("u", "v", "w", d.words(3))))
		}
	}
	all := impl.Inner(outside, n.Decls)
	n.Pre, n.Uri = d.space(all)
	for range d.below(4) {
		a := attr("", d.one("j", "k", "l"), "", d.words(5))
		if a.Pre, a.Uri = d.space(all); a.Pre == "" {
			a.Uri = ""
		}
		n.Attrs = append(n.Attrs, a)
	}
	order := func(a impl.Attr, b impl.Attr) int {
		return cmp.Or(strings.Compare(a.Uri, b.Uri), strings.Compare(a.Local, b.Local))
	}
	slices.SortFunc(n.Attrs, order)
	n.Attrs = slices.CompactFunc(n.Attrs, func(a impl.Attr, b impl.Attr) bool { return order(a, b) == 0 })
	for range d.below(4) {
		switch d.below(4) {
		case 0:
			n.Kids = append(n.Kids, d.mark())
		case 1:
			n.Kids = append(n.Kids, txt(d.words(6)))
		default:
			if deep > 1 {
				n.Kids = append(n.Kids, d.node(all, deep-1))
			}
		}
	}
	n.Kids = impl.Merge(n.Kids)
	return n
}

// space is a part ahead that means something, and what it means.
func (d *drawer) space(all []impl.Decl) (string, string) {
	for {
		pre := d.one("", "P", "p", "q")
		if uri, ok := impl.SpaceOf(all, pre); ok {
			return pre, uri
		}
	}
}

func TestDrawnTreesComeBack(t *testing.T) {
	d := drawer(2)
	right := 0
	for range 20000 {
		n := d.tree()
		if !impl.TreeOk(n) {
			wantWrites(t, n, onlyIf(impl.NodeOk(n), plainWritten(n)))
			continue
		}
		right++
		wantTreeBack(t, n, plainWritten(n))
	}
	if right < 5000 {
		t.Errorf("only %d of the trees were right", right)
	}
}

func TestSomeTreesAreWritten(t *testing.T) {
	for i, want := range []string{
		"<a/>", "<a/>", "<a>x</a>",
		"<!--h--><?t?><a xmlns=\"u\" xmlns:p=\"v\" j=\"&lt;x \" p:k=\"2\">tx\n&lt;<b id=\"i\" k=\"1 \"/><p:c xmlns=\"\"><b k=\"1 \">y</b></p:c><!--n--><?t go?>\n</a><?t go?>",
		"<p:a xmlns:p=\"\u00e9\"><p:a><p:b p:k=\"\u3042\"/></p:a><p:a/>A</p:a><!--n-->",
	} {
		n, _, ok := impl.ReadTree(someTrees()[i].text())
		if !ok {
			t.Fatalf("the text %d is read as none", i)
		}
		wantTreeBack(t, n, want)
	}
}
