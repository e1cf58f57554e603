package tests

import (
	"slices"
	"strconv"
	"strings"
	"testing"

	"loop.example/g00484/impl"
)

// Texts that are no signs one behind the other, or have one that may not stand in a text.
var noTexts = []string{
	"\x00", "\x01", "\x08", "\x0b", "\x0c", "\x0e", "\x1f", "\uFFFE", "\uFFFF",
	"\xff", "\x80", "\xc3", "\xe3\x81", "\xc1\xa1", "\xed\xa0\x80", "\xed\xbf\xbf", "\xf4\x90\x80\x80",
}

func decl(pre string, uri string) impl.Decl {
	return impl.Decl{Pre: pre, Uri: uri}
}

func wantDecl(t *testing.T, pre string, uri string, want bool) {
	t.Helper()
	if impl.DeclOk(decl(pre, uri)) != want {
		t.Errorf("DeclOk(%q, %q) = %v", pre, uri, !want)
	}
	wantDecls(t, want, decl(pre, uri))
}

func wantDecls(t *testing.T, want bool, l ...impl.Decl) {
	t.Helper()
	if impl.DeclsOk(l) != want {
		t.Errorf("DeclsOk(%q) = %v", l, !want)
	}
}

func wantSpace(t *testing.T, l []impl.Decl, pre string, want string, wantOk bool) {
	t.Helper()
	if got, ok := impl.SpaceOf(l, pre); got != want || ok != wantOk {
		t.Errorf("SpaceOf(%q, %q) = %q, %v; want %q, %v", l, pre, got, ok, want, wantOk)
	}
}

func wantPre(t *testing.T, l []impl.Decl, uri string, bare bool, want string, wantOk bool) {
	t.Helper()
	if got, ok := impl.PreFor(l, uri, bare); got != want || ok != wantOk {
		t.Errorf("PreFor(%q, %q, %v) = %q, %v; want %q, %v", l, uri, bare, got, ok, want, wantOk)
	}
}

func wantInner(t *testing.T, l []impl.Decl, more []impl.Decl, want ...impl.Decl) {
	t.Helper()
	if got := impl.Inner(l, more); !slices.Equal(got, want) {
		t.Errorf("Inner(%q, %q) = %q, want %q", l, more, got, want)
	}
}

func TestDeclLimits(t *testing.T) {
	if impl.MaxDecls != 4 || impl.MaxUri != 40 {
		t.Errorf("MaxDecls = %d, MaxUri = %d", impl.MaxDecls, impl.MaxUri)
	}
}

func TestDeclOkOfPartsAhead(t *testing.T) {
	for _, pre := range plainNames {
		wantDecl(t, pre, "u", !strings.HasPrefix(pre, "xml"))
	}
	for _, pre := range noNames {
		wantDecl(t, pre, "u", pre == "")
	}
	for _, pre := range noTexts {
		wantDecl(t, pre, "u", false)
		wantDecl(t, "p"+pre, "u", false)
	}
	wantDecl(t, strings.Repeat("p", impl.MaxName), "u", true)
	wantDecl(t, strings.Repeat("p", impl.MaxName+1), "u", false)
}

func TestDeclOkOfPartsAheadThatBeginLikeXml(t *testing.T) {
	for _, pre := range []string{"xml", "xmlns", "xmlx", "xml-", "xml.1", "xml_", "xml\u00e9", "xmlXML", "xmlsixteenletter"} {
		wantDecl(t, pre, "u", false)
		wantDecl(t, pre, "", false)
	}
	// It is just these three letters, and at the beginning.
	for _, pre := range []string{"x", "xm", "xmk", "xmm", "axml", "_xml", "x-ml", "XML", "Xml", "xML", "xMl", "xmL"} {
		wantDecl(t, pre, "u", true)
	}
}

func TestDeclOkOfTheEmptyPartAhead(t *testing.T) {
	wantDecl(t, "", "", true)
	wantDecl(t, "", "u", true)
	wantDecl(t, "", "xml", true)
	wantDecl(t, "", strings.Repeat("u", impl.MaxUri), true)
	wantDecl(t, "", strings.Repeat("u", impl.MaxUri+1), false)
	if !impl.DeclOk(impl.Decl{}) {
		t.Error("the zero one is not right")
	}
}

func TestDeclOkOfAnEmptySpace(t *testing.T) {
	for _, pre := range append([]string{"p", " ", "xml", "1"}, plainNames...) {
		wantDecl(t, pre, "", false)
	}
}

func TestDeclOkOfSpaces(t *testing.T) {
	for _, pre := range []string{"", "p", "\u00e9-1"} {
		for _, uri := range []string{"u", "urn:a:b", "http://a.example/b?c=d&e#f", "\u00e9\u3042\U00010000", "\uFFFD", "\U0010ffff", " ", "a b", "\t\n\r", "<>&'\"", "-", "xml", "http://www.w3.org/XML/1998/namespace"} {
			wantDecl(t, pre, uri, true)
		}
		for _, s := range noTexts {
			for _, uri := range []string{s, "u" + s, s + "u", "u" + s + "u"} {
				wantDecl(t, pre, uri, false)
			}
		}
	}
}

func TestDeclOkOfMaxUri(t *testing.T) {
	for _, pre := range []string{"", "p"} {
		for _, sign := range []string{"u", "\u00e9", "\u3042", "\U00010000"} {
			for n := 1; n <= impl.MaxUri+1; n++ {
				uri := strings.Repeat(sign, n)
				wantDecl(t, pre, uri, len(uri) <= impl.MaxUri)
			}
			just := strings.Repeat("u", impl.MaxUri-len(sign)) + sign
			wantDecl(t, pre, just, true)
			wantDecl(t, pre, just+"u", false)
			wantDecl(t, pre, "u"+just, false)
		}
		wantDecl(t, pre, strings.Repeat("u", impl.MaxText), false)
		wantDecl(t, pre, strings.Repeat("u", impl.MaxText+1), false)
		wantDecl(t, pre, strings.Repeat("u", 100000), false)
	}
}

func TestDeclsOk(t *testing.T) {
	if !impl.DeclsOk(nil) || !impl.DeclsOk([]impl.Decl{}) {
		t.Error("a list of none is not right")
	}
	wantDecls(t, true, decl("p", "u"))
	wantDecls(t, true, decl("", ""))
	wantDecls(t, true, decl("", "u"), decl("p", "u"))
	wantDecls(t, true, decl("", ""), decl("p", "u"), decl("q", "u"))
	// Spaces may be alike, and stand in any order.
	wantDecls(t, true, decl("p", "v"), decl("q", "u"), decl("r", "v"))
	wantDecls(t, false, decl("", ""), decl("p", ""))
	wantDecls(t, false, decl("p", "u"), decl("xml", "u"))
}

// The order is that of bytes: signs of more bytes come behind, and a beginning ahead of what goes on.
func TestDeclsOkOfTheOrder(t *testing.T) {
	order := []string{"", "A", "Z", "Za", "_", "a", "a-", "a.", "a0", "aA", "a_", "aa", "b", "z", "\u00e9", "\u3042", "\ud7ff", "\uFFFD", "\U00010000"}
	for i, first := range order {
		for j, second := range order {
			wantDecls(t, i < j, decl(first, "u"), decl(second, "u"))
			wantDecls(t, i < j, decl(first, "u"), decl(second, "v"))
			wantDecls(t, i < j, decl(first, "v"), decl(second, "u"))
		}
	}
	names := []string{"", "a", "b", "c"}
	for n := range 256 {
		var l []impl.Decl
		for i := range 4 {
			l = append(l, decl(names[n>>(2*i)&3], "u"))
		}
		wantDecls(t, l[0].Pre == "" && l[1].Pre == "a" && l[2].Pre == "b" && l[3].Pre == "c", l...)
	}
}

func declsOf(pres ...string) []impl.Decl {
	var l []impl.Decl
	for _, pre := range pres {
		l = append(l, decl(pre, "of "+pre))
	}
	return l
}

func TestDeclsOkOfOneThatIsNotRight(t *testing.T) {
	for _, wrong := range []impl.Decl{decl("b", ""), decl("b ", "u"), decl("b:b", "u"), decl("b", "\x00"), decl("b", "\xff"), decl("b", strings.Repeat("u", impl.MaxUri+1))} {
		for i := range impl.MaxDecls {
			l := declsOf("a", "a1", "a2", "a3")[:i]
			l = append(l, wrong)
			wantDecls(t, false, l...)
			for _, pre := range []string{"c", "c1", "c2"}[:impl.MaxDecls-len(l)] {
				l = append(l, decl(pre, "u"))
			}
			wantDecls(t, false, l...)
			l[i] = decl("b", "u")
			wantDecls(t, true, l...)
		}
	}
}

func TestDeclsOkOfMaxDecls(t *testing.T) {
	wantDecls(t, true, declsOf("a", "b", "c")...)
	wantDecls(t, true, declsOf("a", "b", "c", "d")...)
	wantDecls(t, true, declsOf("", "b", "c", "d")...)
	wantDecls(t, false, declsOf("a", "b", "c", "d", "e")...)
	wantDecls(t, false, declsOf("", "b", "c", "d", "e")...)
	wantDecls(t, false, make([]impl.Decl, 1000)...)
	var many []impl.Decl
	for i := range 1000 {
		many = append(many, decl("n"+strconv.Itoa(1000+i), "u"))
	}
	wantDecls(t, false, many...)
	wantDecls(t, true, many[:4]...)
}

func TestSpaceOf(t *testing.T) {
	l := []impl.Decl{decl("", "u"), decl("p", "v"), decl("q", "v"), decl("\u00e9", "w")}
	wantSpace(t, l, "", "u", true)
	wantSpace(t, l, "p", "v", true)
	wantSpace(t, l, "q", "v", true)
	wantSpace(t, l, "\u00e9", "w", true)
	for _, pre := range []string{"P", "pp", "r", "u", "v", " ", "p ", "p:", "xml", "xmlns", "\u00e8", "\xc3", "\xff", strings.Repeat("p", 1000)} {
		wantSpace(t, l, pre, "", false)
		wantSpace(t, nil, pre, "", false)
	}
}

func TestSpaceOfOneThatStandsTwice(t *testing.T) {
	wantSpace(t, []impl.Decl{decl("p", "u"), decl("p", "v")}, "p", "v", true)
	wantSpace(t, []impl.Decl{decl("p", "v"), decl("p", "u")}, "p", "u", true)
	wantSpace(t, []impl.Decl{decl("p", "u"), decl("q", "x"), decl("p", "v"), decl("q", "y"), decl("r", "z")}, "p", "v", true)
	wantSpace(t, []impl.Decl{decl("p", "u"), decl("p", "v"), decl("p", "u"), decl("p", "w")}, "p", "w", true)
	wantSpace(t, []impl.Decl{decl("", "u"), decl("", "v")}, "", "v", true)
	// One without a space counts, too, where it stands within.
	wantSpace(t, []impl.Decl{decl("", "u"), decl("", "")}, "", "", true)
	wantSpace(t, []impl.Decl{decl("", ""), decl("", "u")}, "", "u", true)
	wantSpace(t, []impl.Decl{decl("p", "u"), decl("p", "")}, "p", "", true)
}

func TestSpaceOfTheEmptyPartAhead(t *testing.T) {
	wantSpace(t, nil, "", "", true)
	wantSpace(t, []impl.Decl{}, "", "", true)
	wantSpace(t, []impl.Decl{decl("p", "u")}, "", "", true)
	wantSpace(t, []impl.Decl{decl("", "")}, "", "", true)
	wantSpace(t, []impl.Decl{decl("", "u")}, "", "u", true)
	wantSpace(t, []impl.Decl{decl("", "u"), decl("p", "v")}, "", "u", true)
	wantSpace(t, []impl.Decl{decl("p", "v"), decl("", "u"), decl("q", "w")}, "", "u", true)
	wantSpace(t, []impl.Decl{decl("", "u")}, "p", "", false)
	wantSpace(t, []impl.Decl{decl("", "")}, "p", "", false)
}

// No list is asked to be DeclsOk: what holds in a tree is longer, and has the same more than once.
func TestSpaceOfAnyList(t *testing.T) {
	l := []impl.Decl{decl("xml", "x"), decl("q", "\xff"), decl("p ", ""), decl("a:b", strings.Repeat("u", 1000)), decl("\xff", "broken"), decl("a", "u")}
	for _, d := range l {
		wantSpace(t, l, d.Pre, d.Uri, true)
		wantPre(t, l, d.Uri, false, d.Pre, true)
	}
	var many []impl.Decl
	for i := range 3000 {
		many = append(many, decl("n"+strconv.Itoa(i%1000), "u"+strconv.Itoa(i)))
	}
	wantSpace(t, many, "n0", "u2000", true)
	wantSpace(t, many, "n999", "u2999", true)
	wantSpace(t, many, "n1000", "", false)
	wantPre(t, many, "u2999", false, "n999", true)
	wantPre(t, many, "u1999", true, "", false)
}

func TestInner(t *testing.T) {
	u, v, w := decl("p", "u"), decl("q", "v"), decl("p", "w")
	wantInner(t, nil, nil)
	wantInner(t, []impl.Decl{}, []impl.Decl{})
	wantInner(t, []impl.Decl{u, v}, nil, u, v)
	wantInner(t, nil, []impl.Decl{u, v}, u, v)
	wantInner(t, []impl.Decl{u}, []impl.Decl{v}, u, v)
	wantInner(t, []impl.Decl{v}, []impl.Decl{u}, v, u)
	// What stands in both stands twice, and nothing is laid in order.
	wantInner(t, []impl.Decl{u, v}, []impl.Decl{w, v}, u, v, w, v)
	wantInner(t, []impl.Decl{u}, []impl.Decl{u}, u, u)
	wantInner(t, []impl.Decl{decl("", "u")}, []impl.Decl{decl("", "")}, decl("", "u"), decl("", ""))
	wantInner(t, []impl.Decl{decl("xml", ""), {}}, []impl.Decl{decl("\xff", "\x00"), {}}, decl("xml", ""), decl("", ""), decl("\xff", "\x00"), decl("", ""))
	four := declsOf("a", "b", "c", "d")
	wantInner(t, four, four, append(slices.Clone(four), four...)...)
}

func TestInnerSharesNothing(t *testing.T) {
	for _, n := range [][2]int{{0, 0}, {0, 2}, {2, 0}, {1, 1}, {2, 2}, {2, 1}, {4, 4}} {
		room := declsOf("a", "b", "c", "d", "behind", "behind", "behind", "behind", "behind", "behind")
		moreRoom := declsOf("q", "r", "s", "t", "behind", "behind")
		l, more := room[:n[0]], moreRoom[:n[1]]
		before, moreBefore := slices.Clone(room), slices.Clone(moreRoom)
		got := impl.Inner(l, more)
		want := append(slices.Clone(l), more...)
		if !slices.Equal(got, want) {
			t.Errorf("Inner(%q, %q) = %q", l, more, got)
		}
		// What is written into the answer, and behind it, is seen in neither.
		for i := range got[:cap(got)] {
			got[:cap(got)][i] = decl("written", "w")
		}
		if !slices.Equal(room, before) || !slices.Equal(moreRoom, moreBefore) {
			t.Errorf("Inner of %d and %d writes into what it was handed, or shares it", n[0], n[1])
		}
		again := impl.Inner(l, more)
		for i := range room {
			room[i] = decl("written", "w")
		}
		for i := range moreRoom {
			moreRoom[i] = decl("written", "w")
		}
		if !slices.Equal(again, want) {
			t.Errorf("Inner of %d and %d hangs on what is written later: %q", n[0], n[1], again)
		}
	}
}

func TestInnerOfOneListTwice(t *testing.T) {
	room := declsOf("a", "b", "c", "d")
	before := slices.Clone(room)
	got := impl.Inner(room[:2], room[1:3])
	if !slices.Equal(got, declsOf("a", "b", "b", "c")) || !slices.Equal(room, before) {
		t.Errorf("Inner of two pieces of one list = %q, the list is %q", got, room)
	}
	first, second := impl.Inner(room[:1], room[1:2]), impl.Inner(room[:1], room[2:3])
	if !slices.Equal(first, declsOf("a", "b")) || !slices.Equal(second, declsOf("a", "c")) {
		t.Errorf("two answers share memory: %q, %q", first, second)
	}
}

func TestPreFor(t *testing.T) {
	l := []impl.Decl{decl("", "u"), decl("p", "v"), decl("q", "v"), decl("r", "w")}
	for _, bare := range []bool{false, true} {
		wantPre(t, l, "w", bare, "r", true)
		// Of several it is the first one.
		wantPre(t, l, "v", bare, "p", true)
		wantPre(t, l[2:], "v", bare, "q", true)
		wantPre(t, []impl.Decl{decl("q", "v"), decl("p", "v")}, "v", bare, "q", true)
		for _, uri := range []string{"x", "U", "uu", "p", "q", " ", "v ", "\xff", "\x00", strings.Repeat("v", 1000)} {
			wantPre(t, l, uri, bare, "", false)
			wantPre(t, nil, uri, bare, "", false)
		}
	}
	wantPre(t, l, "u", true, "", true)
	wantPre(t, l, "u", false, "", false)
}

func TestPreForBare(t *testing.T) {
	// The empty one is ahead of all, wherever it stands.
	for _, l := range [][]impl.Decl{
		{decl("", "u"), decl("p", "u")},
		{decl("p", "u"), decl("", "u")},
		{decl("", "v"), decl("p", "u"), decl("q", "u"), decl("", "u"), decl("p", "v"), decl("p", "u")},
	} {
		wantPre(t, l, "u", true, "", true)
		wantPre(t, l, "u", false, "p", true)
	}
	// Where it means something else, the others are asked.
	for _, l := range [][]impl.Decl{
		{decl("p", "u")},
		{decl("", "v"), decl("p", "u")},
		{decl("", ""), decl("p", "u")},
		{decl("", "u"), decl("p", "u"), decl("", "v")},
		{decl("", "u"), decl("p", "u"), decl("", "")},
	} {
		wantPre(t, l, "u", true, "p", true)
		wantPre(t, l, "u", false, "p", true)
	}
}

func TestPreForNoSpace(t *testing.T) {
	for _, l := range [][]impl.Decl{
		nil,
		{},
		{decl("p", "u")},
		{decl("", "")},
		{decl("", "u"), decl("p", "u"), decl("", "")},
	} {
		wantPre(t, l, "", true, "", true)
		wantPre(t, l, "", false, "", false)
	}
	for _, l := range [][]impl.Decl{
		{decl("", "u")},
		{decl("", ""), decl("p", "u"), decl("", "u")},
	} {
		wantPre(t, l, "", true, "", false)
		wantPre(t, l, "", false, "", false)
	}
	// A list that is not right: a part ahead that means no space is one of those that mean it.
	wrong := []impl.Decl{decl("", "u"), decl("p", "")}
	wantPre(t, wrong, "", true, "p", true)
	wantPre(t, wrong, "", false, "p", true)
	wantPre(t, wrong[1:], "", true, "", true)
}

func TestPreForOneThatIsCovered(t *testing.T) {
	for _, bare := range []bool{false, true} {
		l := []impl.Decl{decl("p", "a"), decl("p", "b")}
		wantPre(t, l, "a", bare, "", false)
		wantPre(t, l, "b", bare, "p", true)
		l = []impl.Decl{decl("p", "a"), decl("q", "a"), decl("p", "b")}
		wantPre(t, l, "a", bare, "q", true)
		wantPre(t, l, "b", bare, "p", true)
		// It is the first Pre, though the one that counts stands behind another one's.
		l = []impl.Decl{decl("p", "a"), decl("q", "b"), decl("p", "b")}
		wantPre(t, l, "a", bare, "", false)
		wantPre(t, l, "b", bare, "p", true)
		l = []impl.Decl{decl("p", "a"), decl("p", "b"), decl("p", "a")}
		wantPre(t, l, "a", bare, "p", true)
		wantPre(t, l, "b", bare, "", false)
	}
	l := []impl.Decl{decl("", "a"), decl("", "b")}
	wantPre(t, l, "a", true, "", false)
	wantPre(t, l, "b", true, "", true)
	wantPre(t, l, "b", false, "", false)
}

// eachList hands on every list of at most length of these parts ahead and spaces.
func eachList(length int, pres []string, uris []string, do func([]impl.Decl)) {
	var grow func([]impl.Decl)
	grow = func(l []impl.Decl) {
		do(l)
		if len(l) == length {
			return
		}
		for _, pre := range pres {
			for _, uri := range uris {
				grow(append(slices.Clone(l), decl(pre, uri)))
			}
		}
	}
	grow(nil)
}

// meaning is another way to the same: from the outside in, each one puts away what it covers.
func meaning(l []impl.Decl) map[string]string {
	m := map[string]string{"": ""}
	for _, d := range l {
		m[d.Pre] = d.Uri
	}
	return m
}

func preOf(l []impl.Decl, uri string, bare bool) (string, bool) {
	m := meaning(l)
	var asked []string
	if bare {
		asked = append(asked, "")
	}
	for _, d := range l {
		if d.Pre != "" {
			asked = append(asked, d.Pre)
		}
	}
	i := slices.IndexFunc(asked, func(pre string) bool { return m[pre] == uri })
	if i < 0 {
		return "", false
	}
	return asked[i], true
}

func TestScopesAnotherWay(t *testing.T) {
	pres, uris := []string{"", "p", "q"}, []string{"", "u", "v"}
	eachList(4, pres, uris, func(l []impl.Decl) {
		before := slices.Clone(l)
		m := meaning(l)
		for _, pre := range append(pres, "x") {
			want, ok := m[pre]
			wantSpace(t, l, pre, want, ok)
		}
		for _, uri := range append(uris, "x") {
			for _, bare := range []bool{false, true} {
				want, ok := preOf(l, uri, bare)
				wantPre(t, l, uri, bare, want, ok)
			}
		}
		right := !slices.ContainsFunc(l, func(d impl.Decl) bool { return d.Pre != "" && d.Uri == "" })
		for i := 1; i < len(l); i++ {
			right = right && l[i-1].Pre < l[i].Pre
		}
		wantDecls(t, right, l...)
		if !slices.Equal(l, before) {
			t.Fatalf("the list was %q, and is %q now", before, l)
		}
	})
}

func TestWhatStandsWithinCounts(t *testing.T) {
	pres, uris := []string{"", "p", "q"}, []string{"", "u"}
	eachList(2, pres, uris, func(l []impl.Decl) {
		eachList(2, pres, uris, func(more []impl.Decl) {
			all := impl.Inner(l, more)
			wantInner(t, l, more, append(slices.Clone(l), more...)...)
			for _, pre := range append(pres, "x") {
				from := l
				if slices.ContainsFunc(more, func(d impl.Decl) bool { return d.Pre == pre }) {
					from = more
				}
				want, ok := impl.SpaceOf(from, pre)
				wantSpace(t, all, pre, want, ok)
			}
			wantPreThatMeans(t, all)
		})
	})
}

func wantPreThatMeans(t *testing.T, l []impl.Decl) {
	t.Helper()
	for _, uri := range []string{"", "u", "v"} {
		for _, bare := range []bool{false, true} {
			pre, ok := impl.PreFor(l, uri, bare)
			if ok {
				wantSpace(t, l, pre, uri, true)
			}
			if pre == "" && ok && !bare {
				t.Errorf("PreFor(%q, %q, false) is the empty one", l, uri)
			}
		}
	}
}

func TestScopesLookAtNothingBehindTheEnd(t *testing.T) {
	room := []impl.Decl{decl("", "u"), decl("p", "v"), decl("p", "behind"), decl("", "behind"), decl("z", "behind")}
	before := slices.Clone(room)
	l := room[:2]
	wantSpace(t, l, "", "u", true)
	wantSpace(t, l, "p", "v", true)
	wantSpace(t, l, "z", "", false)
	wantPre(t, l, "behind", true, "", false)
	wantPre(t, l, "v", false, "p", true)
	wantDecls(t, true, l...)
	wantDecls(t, false, room...)
	if !slices.Equal(room, before) {
		t.Errorf("the list is %q now", room)
	}
}
