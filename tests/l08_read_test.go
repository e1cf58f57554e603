package tests

import (
	"maps"
	"reflect"
	"regexp"
	"slices"
	"strings"
	"testing"
	"unicode/utf8"

	"loop.example/g00484/impl"
)

// wantRead asks for the tree of s and its head.
func wantRead(t *testing.T, s string, h impl.Head, kids ...impl.Node) {
	t.Helper()
	n, gotHead, ok := impl.ReadTree(s)
	if !ok || !alike([]impl.Node{n}, []impl.Node{doc(kids...)}) || !sameHead(gotHead, h) {
		t.Errorf("ReadTree(%q) = %+v, %+v, %v; want %+v, %+v, true", s, n, gotHead, ok, doc(kids...), h)
	}
	wantTree(t, true, n)
	if ok {
		wantBack(t, n)
	}
}

// wantTreeOf is of a text without a head.
func wantTreeOf(t *testing.T, s string, kids ...impl.Node) {
	t.Helper()
	wantRead(t, s, impl.Head{}, kids...)
}

func wantNoTreeOf(t *testing.T, s string) {
	t.Helper()
	if n, h, ok := impl.ReadTree(s); ok || !alike([]impl.Node{n}, []impl.Node{{}}) || !sameHead(h, impl.Head{}) {
		t.Errorf("ReadTree(%q) = %+v, %+v, %v; want the zero ones and false", s, n, h, ok)
	}
}

// wantKids asks for what stands in an element, and wantNoKids that it may not stand there.
// Both have it deeper, too, and beside others.
func wantKids(t *testing.T, s string, kids ...impl.Node) {
	t.Helper()
	wantTreeOf(t, "<a>"+s+"</a>", el("a", kids...))
	wantTreeOf(t, "<b><a>"+s+"</a></b>", el("b", el("a", kids...)))
	wantTreeOf(t, "<a><b/>"+s+"<b></b></a>", el("a", append(append([]impl.Node{el("b")}, kids...), el("b"))...))
}

func wantNoKids(t *testing.T, s string) {
	t.Helper()
	wantNoTreeOf(t, "<a>"+s+"</a>")
	wantNoTreeOf(t, "<b><a>"+s+"</a></b>")
	wantNoTreeOf(t, "<a><b/>"+s+"<b></b></a>")
	wantNoTreeOf(t, "<!DOCTYPE a><a>"+s+"</a>")
}

func TestTreesOfOneElement(t *testing.T) {
	for _, s := range []string{"<a/>", "<a></a>", "<a />", "<a\n/>", "<a ></a>", "<a></a\t\r\n>"} {
		wantTreeOf(t, s, el("a"))
		wantRead(t, "<!DOCTYPE a>"+s, head(), el("a"))
	}
	for _, name := range plainNames {
		wantTreeOf(t, "<"+name+"/>", el(name))
		wantTreeOf(t, "<"+name+"></"+name+">", el(name))
		in := withDecls(elIn("p", "u"), decl("p", "u"))
		in.Local = name
		wantTreeOf(t, "<p:"+name+" xmlns:p='u'/>", in)
		wantTreeOf(t, "<p:"+name+" xmlns:p='u'></p:"+name+">", in)
	}
	for _, name := range noNames {
		// Of these the beginning is a name, and blanks may stand behind it.
		if strings.TrimRight(name, " \t\n\r") != name {
			continue
		}
		wantNoTreeOf(t, "<"+name+"/>")
		wantNoTreeOf(t, "<"+name+"></"+name+">")
		wantNoTreeOf(t, "<p:"+name+" xmlns:p='u'/>")
	}
	for _, s := range []string{
		"", " ", "\n", "x", "<", ">", "<a", "<a>", "<a/", "a/>", "</a>", "</a><a>", "<a></a", "<a></b>", "<a><b>", "<a></a></a>", "<a/></a>", "<a/><a/>", "<a></a><a></a>", "<a><a></a>", "<a><b></a></b>", "<a></a/>", "<a/ >", "<a></ a>", "<a></a b='1'>", "< a/>", "<a><a/>", "<a></A>", "<A></a>", "<a></aa>", "<aa></a>", "<a></>", "<a></a:a>",
		"<!--n-->", "<?t?>", "<![CDATA[x]]>", "<!DOCTYPE a>", "<!DOCTYPE a><!--n-->", "<?xml version=\"1.0\"?>", "<?xml version=\"1.0\"?><!DOCTYPE a>",
		"x<a/>", "<a/>x", "x<a></a>", "<a></a>x", "<![CDATA[]]><a/>", "<a/><![CDATA[]]>",
	} {
		wantNoTreeOf(t, s)
	}
}

// What may stand at the very beginning.
var textStarts = []string{"<?xml version=\"1.0\"?>", "<?xml version=\"1.0\" encoding=\"UTF-8\"?>"}

func TestWhatATextBeginsWith(t *testing.T) {
	for _, start := range textStarts {
		wantTreeOf(t, start+"<a/>", el("a"))
		wantRead(t, start+"<!DOCTYPE a><a></a>", head(), el("a"))
		wantTreeOf(t, start+"\n<a/>", el("a"))
		wantTreeOf(t, start+"\r\n \t<a/>", el("a"))
		wantTreeOf(t, start+"<!--n--><?t go?><a/>", note("n"), told("t", "go"), el("a"))
		for _, ahead := range []string{" ", "\n", "\r", "\r\n", "\t", "\ufeff", "x", "<!--n-->", "<?t?>", "<!DOCTYPE a>", "<a/>", textStarts[0], textStarts[1]} {
			wantNoTreeOf(t, ahead+start+"<a/>")
			wantNoTreeOf(t, ahead+start)
		}
		wantNoTreeOf(t, "<a>"+start+"</a>")
		wantNoTreeOf(t, "<a/>"+start)
		wantNoTreeOf(t, within(start)+"<a/>")
		wantNoTreeOf(t, start)
		for i := 1; i < len(start); i++ {
			wantNoTreeOf(t, start[:i]+"<a/>")
			wantNoTreeOf(t, start[i:]+"<a/>")
			// Within the `xml` it is another name.
			if i < 2 || i > 4 {
				wantNoTreeOf(t, start[:i]+" "+start[i:]+"<a/>")
				wantNoTreeOf(t, start[:i]+start[i+1:]+"<a/>")
			}
		}
	}
	for _, s := range []string{
		"<?xml version='1.0'?>", "<?xml version=\"1.0'?>", "<?xml version='1.0\"?>", "<?xml version=\"1.0\" encoding='UTF-8'?>", "<?xml version='1.0' encoding=\"UTF-8\"?>",
		"<?xml version=\"1.0\" ?>", "<?xml  version=\"1.0\"?>", "<?xml\tversion=\"1.0\"?>", "<?xml\nversion=\"1.0\"?>", "<?xml\r\nversion=\"1.0\"?>", "<?xml version =\"1.0\"?>", "<?xml version= \"1.0\"?>", "<?xml version=\"1.0\"encoding=\"UTF-8\"?>", "<?xml version=\"1.0\"  encoding=\"UTF-8\"?>", "<?xml version=\"1.0\"\nencoding=\"UTF-8\"?>", "<?xml version=\"1.0\" encoding=\"UTF-8\" ?>",
		"<?xml version=\"1.1\"?>", "<?xml version=\"1\"?>", "<?xml version=\"1.0 \"?>", "<?xml version=\"\"?>", "<?xml version=\"1.0\" encoding=\"utf-8\"?>", "<?xml version=\"1.0\" encoding=\"UTF8\"?>", "<?xml version=\"1.0\" encoding=\"UTF-16\"?>", "<?xml version=\"1.0\" encoding=\"ASCII\"?>", "<?xml version=\"1.0\" encoding=\"\"?>", "<?xml encoding=\"UTF-8\"?>", "<?xml encoding=\"UTF-8\" version=\"1.0\"?>",
		"<?xml version=\"1.0\" standalone=\"yes\"?>", "<?xml version=\"1.0\" encoding=\"UTF-8\" standalone=\"no\"?>", "<?xml?>", "<?xml ?>", "<?XML version=\"1.0\"?>", "<?Xml version=\"1.0\"?>", "<?xml VERSION=\"1.0\"?>", "<xml version=\"1.0\"?>", "<?xml version=\"1.0\">", "<?xml version=\"1.0\"/>",
	} {
		for _, behind := range []string{"<a/>", "\n<a/>", "<!DOCTYPE a><a/>", "<a></a>\n"} {
			wantNoTreeOf(t, s+behind)
			wantNoTreeOf(t, textStarts[0]+s+behind)
		}
	}
}

func TestWhatIsToldToXml(t *testing.T) {
	around := [][2]string{{"", "<a/>"}, {"<!--n-->", "<a/>"}, {"<!DOCTYPE a>", "<a/>"}, {"<a/>", ""}, {"<a/>\n", "<!--n-->"}, {"<a>", "</a>"}, {"<a><b/>x", "y</a>"}, {textStarts[0], "<a/>"}}
	for _, name := range []string{"xml", "XML", "Xml", "xML", "xMl", "p:t", "xml:t", "p:xml", "t:", ":t", "1", ""} {
		for _, x := range around {
			wantNoTreeOf(t, x[0]+"<?"+name+"?>"+x[1])
			wantNoTreeOf(t, x[0]+"<?"+name+" go?>"+x[1])
		}
	}
	for _, name := range []string{"xmlx", "xm", "axml", "x-ml", "xml1", "XMLx", "xmlns", "t"} {
		wantTreeOf(t, "<?"+name+"?><a/>", told(name, ""), el("a"))
		wantTreeOf(t, "<?"+name+" version=\"1.0\"?><a/>", told(name, "version=\"1.0\""), el("a"))
		wantTreeOf(t, "<a/><?"+name+" \n go ?>", el("a"), told(name, "go "))
		wantKids(t, "<?"+name+" go?>", told(name, "go"))
	}
}

// What may be beside, and the nodes that come of it.
var besideElements = []struct {
	s string
	n []impl.Node
}{
	{" ", nil},
	{"\t\r\n\r", nil},
	{"<!--n-->", []impl.Node{note("n")}},
	{"<!---->", []impl.Node{note("")}},
	{"<!-- <a/>&e; ]]> -->", []impl.Node{note(" <a/>&e; ]]> ")}},
	{"<?t?>", []impl.Node{told("t", "")}},
	{"<?u go ?>", []impl.Node{told("u", "go ")}},
}

// eachBeside has the lists of up to length of these, as a text and as nodes.
func eachBeside(length int, do func(string, []impl.Node)) {
	do("", nil)
	if length == 0 {
		return
	}
	for _, x := range besideElements {
		eachBeside(length-1, func(s string, l []impl.Node) {
			do(x.s+s, slices.Concat(x.n, l))
		})
	}
}

func TestWhatIsBeside(t *testing.T) {
	eachBeside(1, func(ahead string, one []impl.Node) {
		eachBeside(1, func(between string, two []impl.Node) {
			eachBeside(2, func(behind string, three []impl.Node) {
				whole := slices.Concat(one, two, []impl.Node{el("a")}, three)
				wantTreeOf(t, ahead+between+"<a/>"+behind, whole...)
				wantTreeOf(t, textStarts[1]+ahead+between+"<a></a>"+behind, whole...)
				wantRead(t, ahead+"<!DOCTYPE a>"+between+"<a/>"+behind, head(), whole...)
				wantRead(t, textStarts[0]+ahead+within("<!ENTITY e 'x'>")+between+"<a></a>"+behind, head(ent("e", "x")), whole...)
			})
		})
	})
	eachBeside(3, func(s string, l []impl.Node) {
		wantTreeOf(t, s+"<a/>", append(slices.Clone(l), el("a"))...)
		wantTreeOf(t, "<a/>"+s, append([]impl.Node{el("a")}, l...)...)
		wantRead(t, "<!DOCTYPE a>"+s+"<a/>", head(), append(slices.Clone(l), el("a"))...)
	})
}

func TestWhatIsNotBeside(t *testing.T) {
	wrong := []string{
		"x", "&#32;", "&e;", "&none;", "&blank;", "&lt;", "&", "&nope;", "<![CDATA[]]>", "<![CDATA[ ]]>", "<![CDATA[x]]>", "\u00a0", "\ufeff", "\u0085", "\u2028",
		"<a/>", "<b/>", "<b></b>", "<a>", "</a>", "<!--a--b-->", "<!--a--->", "<!----->", "<!--a", "<!-->", "<!--->", "<!-- --a-->", "<?xml?>", "<?1?>", "<?t", "<?t>", "<??>", "<? t?>",
		"<!ENTITY e 'x'>", "<!ATTLIST a b ID #IMPLIED>", "<!DOCTYPE b>", "<!DOCTYPE a [>", "<!DOCTYPE>", "<!doctype a>", "]>", "]]>", ">", "<", "<!", "<!>", "< a/>", "-->", "?>", "/",
		"<!--" + strings.Repeat("n", impl.MaxText+1) + "-->", "<?t " + strings.Repeat("n", impl.MaxText+1) + "?>",
	}
	ents := within("<!ENTITY e 'x'><!ENTITY none ''><!ENTITY blank '&#32;'>")
	for _, x := range append(wrong, noTexts...) {
		for _, s := range []string{x, " " + x, x + "\n", "<!--n-->" + x, x + "<?t?>"} {
			wantNoTreeOf(t, s+"<a/>")
			wantNoTreeOf(t, "<a/>"+s)
			wantNoTreeOf(t, "<a></a>"+s)
			for _, h := range []string{"<!DOCTYPE a>", ents} {
				wantNoTreeOf(t, s+h+"<a/>")
				wantNoTreeOf(t, h+s+"<a/>")
				wantNoTreeOf(t, h+"<a/>"+s)
			}
		}
	}
}

func TestHeadsOfTrees(t *testing.T) {
	for _, x := range someHeads {
		name := x.h.Name
		in := el(name)
		decls := ""
		if name == "p:a" {
			in, decls = withDecls(elIn("p", "u"), decl("p", "u")), " xmlns:p='u'"
		}
		// Some of them have a Def of it, and one that has a value.
		for _, d := range x.h.Defs {
			if d.El == name && d.Has {
				in.Attrs = append(in.Attrs, attr("", d.At, "", d.Val))
			}
		}
		for _, whole := range []string{"<" + name + decls + "/>", "<" + name + decls + "></" + name + ">"} {
			wantRead(t, x.s+whole, x.h, in)
			wantRead(t, textStarts[0]+"\n"+x.s+"\n"+whole+"\n", x.h, in)
			wantRead(t, "<!--n-->"+x.s+"<!--m-->"+whole, x.h, note("n"), note("m"), in)
			// A head just once, ahead of the element.
			wantNoTreeOf(t, x.s+x.s+whole)
			wantNoTreeOf(t, x.s+"<!--n-->"+x.s+whole)
			wantNoTreeOf(t, whole+x.s)
			wantNoTreeOf(t, x.s+whole+x.s)
			wantNoTreeOf(t, "<"+name+decls+">"+x.s+"</"+name+">")
			wantNoTreeOf(t, x.s)
			for i := range len(x.s) {
				if i > 0 {
					wantNoTreeOf(t, x.s[:i]+whole)
				}
			}
		}
	}
	// Its Name is the element's, as it stands there.
	p, q := withDecls(elIn("p", "u"), decl("p", "u"), decl("q", "u")), withDecls(elIn("q", "u"), decl("p", "u"), decl("q", "u"))
	wantRead(t, "<!DOCTYPE p:a><p:a xmlns:p='u' xmlns:q='u'/>", impl.Head{Name: "p:a"}, p)
	wantRead(t, "<!DOCTYPE q:a><q:a xmlns:p='u' xmlns:q='u'/>", impl.Head{Name: "q:a"}, q)
	for _, s := range []string{
		"<!DOCTYPE p:a><q:a xmlns:p='u' xmlns:q='u'/>", "<!DOCTYPE a><q:a xmlns:q='u'/>", "<!DOCTYPE p:a><a xmlns='u' xmlns:p='u'/>", "<!DOCTYPE b><a/>", "<!DOCTYPE A><a/>", "<!DOCTYPE aa><a/>", "<!DOCTYPE a><aa/>", "<!DOCTYPE b><a><b/></a>", "<!DOCTYPE b><a></a>", "<!DOCTYPE a><b><a/></b>", "<!DOCTYPE xml:a><xml:a/>",
	} {
		wantNoTreeOf(t, s)
	}
	wantRead(t, "<!DOCTYPE a><a><b/></a>", head(), el("a", el("b")))
	wantRead(t, "<!DOCTYPE a [<!ATTLIST b c CDATA #IMPLIED>]><a/>", head(implied("b", "c")), el("a"))
	wantRead(t, "<!DOCTYPE a [<!ATTLIST b c CDATA 'x'>]><a/>", head(valDef("b", "c", "x")), el("a"))
}

func TestKidsOfElements(t *testing.T) {
	wantKids(t, "")
	wantKids(t, "x", txt("x"))
	wantKids(t, " ", txt(" "))
	wantKids(t, "\n", txt("\n"))
	wantKids(t, " x\ty ", txt(" x\ty "))
	wantKids(t, "<b/>", el("b"))
	wantKids(t, "<b></b>", el("b"))
	wantKids(t, "<a/>", el("a"))
	wantKids(t, "<a></a>", el("a"))
	wantKids(t, "<b/><b/>", el("b"), el("b"))
	wantKids(t, "<b/>\n<c/>", el("b"), txt("\n"), el("c"))
	wantKids(t, "<b><c/></b>", el("b", el("c")))
	wantKids(t, "<b><c></c></b><d/>", el("b", el("c")), el("d"))
	wantKids(t, "<a><a>x</a>y</a>z", el("a", el("a", txt("x")), txt("y")), txt("z"))
	wantKids(t, "x<b>y</b>z", txt("x"), el("b", txt("y")), txt("z"))
	wantKids(t, "<!--n-->", note("n"))
	wantKids(t, "<!---->", note(""))
	wantKids(t, "<!--n--><!--m-->", note("n"), note("m"))
	wantKids(t, "<!--<b>&nope;-->", note("<b>&nope;"))
	wantKids(t, "<?t?>", told("t", ""))
	wantKids(t, "<?t </a> ?>", told("t", "</a> "))
	wantKids(t, "<?t go?>x<!--n--><b/><?t?>", told("t", "go"), txt("x"), note("n"), el("b"), told("t", ""))
	wantKids(t, "<![CDATA[x]]>", txt("x"))
	wantKids(t, "<![CDATA[ ]]>", txt(" "))
	wantKids(t, "<![CDATA[</a>&lt;<b>]]>", txt("</a>&lt;<b>"))
	wantKids(t, "&lt;&#65;&amp;", txt("<A&"))
	wantKids(t, "&lt;b/&gt;", txt("<b/>"))
	wantKids(t, "&#32;", txt(" "))
	wantKids(t, "&#13;", txt("\r"))
	wantKids(t, "\u00e9\u3042\U00010000", txt("\u00e9\u3042\U00010000"))
	for _, s := range []string{
		"&", "&nope;", "&e;", "&#0;", "&#xFFFE;", "&lt", "]]>", "x]]>y", "<", "<b>", "</b>", "<b></c>", "<b/></b>", "<b></a>", "</a>", "<a>", "<b/", "<1/>", "<b k/>", "<b k=''k=''/>", "<b k='<'/>", "<b k='&'/>", "<!--n--", "<!--a--b-->", "<!--a--->", "<!----->", "<![CDATA[x]]", "<![CDATA[", "<![cdata[x]]>", "<?t", "<?xml?>", "<?p:t?>", "<!DOCTYPE b>", "<!DOCTYPE a>", "<!ENTITY e 'x'>", "<!b>", "<p:b/>", "<xml:b/>", "<b p:k=''/>",
		strings.Repeat("x", impl.MaxText+1), "<!--" + strings.Repeat("x", impl.MaxText+1) + "-->", "<?t " + strings.Repeat("x", impl.MaxText+1) + "?>", "<![CDATA[" + strings.Repeat("x", impl.MaxText+1) + "]]>",
	} {
		wantNoKids(t, s)
	}
	for _, wrong := range noTexts {
		for _, s := range []string{"%", "x%", "<!--%-->", "<?t %?>", "<![CDATA[%]]>", "<b k='%'/>", "<b%/>", "<%/>", "</a>%<a>"} {
			wantNoKids(t, strings.ReplaceAll(s, "%", wrong))
		}
	}
}

func TestTextsThatBecomeOne(t *testing.T) {
	wantKids(t, "x<![CDATA[y]]>", txt("xy"))
	wantKids(t, "<![CDATA[x]]>y", txt("xy"))
	wantKids(t, "<![CDATA[x]]><![CDATA[y]]>", txt("xy"))
	wantKids(t, "x<![CDATA[]]>y", txt("xy"))
	wantKids(t, "x<![CDATA[<]]>y<![CDATA[]]]]><![CDATA[>]]>", txt("x<y]]>"))
	wantKids(t, "<![CDATA[]]>")
	wantKids(t, "<![CDATA[]]><![CDATA[]]>")
	wantKids(t, "<!--n--><![CDATA[]]><!--m-->", note("n"), note("m"))
	wantKids(t, "<b/><![CDATA[]]>x", el("b"), txt("x"))
	wantKids(t, "x<!---->y", txt("x"), note(""), txt("y"))
	wantKids(t, "x<b/><![CDATA[y]]>", txt("x"), el("b"), txt("y"))
	wantKids(t, "x<?t?>y", txt("x"), told("t", ""), txt("y"))
	wantKids(t, "<b>x</b>y<b><![CDATA[z]]>&lt;</b>", el("b", txt("x")), txt("y"), el("b", txt("z<")))
	half, just := strings.Repeat("h", impl.MaxText/2), strings.Repeat("h", impl.MaxText)
	wantKids(t, half+"<![CDATA["+half+"]]>", txt(just))
	wantKids(t, "<![CDATA["+half+"]]><![CDATA["+half+"]]><![CDATA[]]>", txt(just))
	wantKids(t, just+"<!---->"+half, txt(just), note(""), txt(half))
	wantNoKids(t, half+"<![CDATA["+half+"]]>x")
	wantNoKids(t, "x"+half+"<![CDATA["+half+"]]>")
	wantNoKids(t, half+"<![CDATA[x]]>"+half)
	h := within("<!ENTITY e 'x'><!ENTITY none ''><!ENTITY lot '", half, "'>")
	told := head(ent("e", "x"), ent("none", ""), ent("lot", half))
	for s, kids := range map[string][]impl.Node{
		"&e;":                           {txt("x")},
		"a&e;b":                         {txt("axb")},
		"&e;<![CDATA[&e;]]>&e;":         {txt("x&e;x")},
		"&none;":                        nil,
		"&none;&none;":                  nil,
		"<b/>&none;<b/>":                {el("b"), el("b")},
		"<b>&none;</b>&none;":           {el("b")},
		"x<![CDATA[]]>&none;y":          {txt("xy")},
		"&lot;&lot;":                    {txt(just)},
		"&lot;<![CDATA[]]>" + half:      {txt(just)},
		"<b k='&e;' l='&none;&none;'/>": {withAttrs(el("b"), attr("", "k", "", "x"), attr("", "l", "", ""))},
		"<!--&e;--><?t &e;?>":           {note("&e;"), {Kind: impl.NdTold, Local: "t", Text: "&e;"}},
	} {
		wantRead(t, h+"<a>"+s+"</a>", told, el("a", kids...))
	}
	for _, s := range []string{"&lot;&lot;x", "&lot;<![CDATA[x]]>&lot;", "&lot;&e;&lot;", "&nope;", "&E;", "<b k='&nope;'/>", "<b k='&lot;&lot;x'/>"} {
		wantNoTreeOf(t, h+"<a>"+s+"</a>")
	}
}

// permuted are all orders of l.
func permuted(l []string) [][]string {
	if len(l) == 0 {
		return [][]string{nil}
	}
	var all [][]string
	for i := range l {
		for _, more := range permuted(slices.Delete(slices.Clone(l), i, i+1)) {
			all = append(all, append([]string{l[i]}, more...))
		}
	}
	return all
}

func TestTheOrderOfAttrsAndDecls(t *testing.T) {
	full := withDecls(impl.Node{Kind: impl.NdEl, Local: "a", Uri: "w"}, decl("", "w"), decl("p", "v"), decl("q", "u"))
	full.Attrs = []impl.Attr{attr("", "j", "", "2"), attr("", "k", "", "1"), attr("q", "k", "u", "4"), attr("p", "j", "v", "3")}
	for _, l := range permuted([]string{" xmlns='w'", " xmlns:p='v'", " xmlns:q=\"u\"", " k='1'", " j='2'", " p:j='3'", " q:k='4'"}) {
		wantTreeOf(t, "<a"+strings.Join(l, "")+"/>", full)
	}
	// By Uri, not by Pre; by bytes, not by letters; a beginning ahead of what goes on.
	n := withDecls(el("a"), decl("A", "z"), decl("_", "B"), decl("a", "b"), decl("ab", "B!"))
	n.Attrs = []impl.Attr{attr("_", "k", "B", ""), attr("_", "kk", "B", ""), attr("ab", "k", "B!", ""), attr("a", "k", "b", ""), attr("A", "K", "z", "")}
	for _, l := range permuted([]string{" a:k=''", " A:K=''", " ab:k=''", " _:kk=''", " _:k=''"}) {
		wantTreeOf(t, "<a xmlns:ab='B!' xmlns:a='b' xmlns:_='B' xmlns:A='z'"+strings.Join(l, "")+"/>", n)
		wantTreeOf(t, "<a"+strings.Join(l, "")+" xmlns:a='b' xmlns:_='B' xmlns:ab='B!' xmlns:A='z'></a>", n)
	}
	wantTreeOf(t, "<a \u00e9='1' z='2' _='3' Z='4' x-='5'/>", withAttrs(el("a"), attr("", "Z", "", "4"), attr("", "_", "", "3"), attr("", "x-", "", "5"), attr("", "z", "", "2"), attr("", "\u00e9", "", "1")))
}

func TestRawsOfOneName(t *testing.T) {
	for _, s := range []string{
		"<a k='1' k='2'/>", "<a k='1' k='1'/>", "<a k='' j='' k=''/>", "<a xmlns='u' xmlns='u'/>", "<a xmlns='u' xmlns='v'/>", "<a xmlns:p='u' xmlns:p='u'/>", "<a xmlns:p='u' k='' xmlns:p='v'/>", "<a xmlns:p='u' p:k='1' p:k='2'/>", "<a xmlns:p='u' xmlns:q='u' p:k='1' q:k='2'/>", "<a xmlns:p='u' xmlns:q='u' p:k='1' q:k='1'/>", "<a xmlns='u' xmlns=''/>", "<a k='1' k='2'></a>",
		"<a xmlns:p='u'><b xmlns:q='u' p:k='1' q:k='2'/></a>", "<a xmlns:p='u' xmlns:q='v'><b xmlns:q='u' p:k='1' q:k='2'/></a>",
	} {
		wantNoTreeOf(t, s)
		wantNoKids(t, s)
	}
	p := withDecls(el("a"), decl("", "u"), decl("p", "u"))
	p.Uri = "u"
	// Unlike Locals, or unlike spaces: an Attr without a part ahead is in none.
	wantTreeOf(t, "<a xmlns='u' xmlns:p='u' k='1' p:k='2'/>", withAttrs(p, attr("", "k", "", "1"), attr("p", "k", "u", "2")))
	q := withDecls(el("a"), decl("p", "u"), decl("q", "v"))
	wantTreeOf(t, "<a xmlns:p='u' xmlns:q='v' p:k='1' q:k='2'/>", withAttrs(q, attr("p", "k", "u", "1"), attr("q", "k", "v", "2")))
	q = withDecls(el("a"), decl("p", "u"), decl("q", "u"))
	wantTreeOf(t, "<a xmlns:p='u' xmlns:q='u' p:k='1' q:j='2' K='3'/>", withAttrs(q, attr("", "K", "", "3"), attr("q", "j", "u", "2"), attr("p", "k", "u", "1")))
	wantTreeOf(t, "<a xmlns:p='u' xmlns='v' p:xmlns='1'/>", impl.Node{Kind: impl.NdEl, Local: "a", Uri: "v", Decls: []impl.Decl{decl("", "v"), decl("p", "u")}, Attrs: []impl.Attr{attr("p", "xmlns", "u", "1")}})
}

// inSpace is an element by its Pre, Local and Uri.
func inSpace(pre string, local string, uri string, kids ...impl.Node) impl.Node {
	return impl.Node{Kind: impl.NdEl, Pre: pre, Local: local, Uri: uri, Kids: kids}
}

func TestSpacesOfWhatIsRead(t *testing.T) {
	for s, want := range map[string]impl.Node{
		"<a xmlns='u'><b/></a>":                             withDecls(inSpace("", "a", "u", inSpace("", "b", "u")), decl("", "u")),
		"<a xmlns='u'><b xmlns='v'><c/></b><c/></a>":        withDecls(inSpace("", "a", "u", withDecls(inSpace("", "b", "v", inSpace("", "c", "v")), decl("", "v")), inSpace("", "c", "u")), decl("", "u")),
		"<a xmlns='u'><b xmlns=''><c/></b><c/></a>":         withDecls(inSpace("", "a", "u", withDecls(inSpace("", "b", "", inSpace("", "c", "")), decl("", "")), inSpace("", "c", "u")), decl("", "u")),
		"<a xmlns=''/>":                                     withDecls(el("a"), decl("", "")),
		"<a xmlns='u' k='1'/>":                              withDecls(withAttrs(inSpace("", "a", "u"), attr("", "k", "", "1")), decl("", "u")),
		"<p:a xmlns:p='u'/>":                                withDecls(inSpace("p", "a", "u"), decl("p", "u")),
		"<a xmlns:p='u'/>":                                  withDecls(el("a"), decl("p", "u")),
		"<p:a xmlns:p='u'><p:b/><b/></p:a>":                 withDecls(inSpace("p", "a", "u", inSpace("p", "b", "u"), el("b")), decl("p", "u")),
		"<a xmlns:p='u'><p:b xmlns:p='v'/><p:b/></a>":       withDecls(el("a", withDecls(inSpace("p", "b", "v"), decl("p", "v")), inSpace("p", "b", "u")), decl("p", "u")),
		"<a xmlns:p='u'><b><c p:k='1'/></b></a>":            withDecls(el("a", el("b", withAttrs(el("c"), attr("p", "k", "u", "1")))), decl("p", "u")),
		"<a xmlns:p='u'><b p:k='1' xmlns:p='v'/></a>":       withDecls(el("a", withDecls(withAttrs(el("b"), attr("p", "k", "v", "1")), decl("p", "v"))), decl("p", "u")),
		"<a xmlns:p='u'><b xmlns:q='u' p:k='' q:j=''/></a>": withDecls(el("a", withDecls(withAttrs(el("b"), attr("q", "j", "u", ""), attr("p", "k", "u", "")), decl("q", "u"))), decl("p", "u")),
		"<a xmlns='u' xmlns:p='u'><p:a/></a>":               withDecls(inSpace("", "a", "u", inSpace("p", "a", "u")), decl("", "u"), decl("p", "u")),
		"<a p:k='1' xmlns:p='&lt;&#65; '/>":                 withDecls(withAttrs(el("a"), attr("p", "k", "<A ", "1")), decl("p", "<A ")),
		"<a xmlns='\n'/>":                                   withDecls(inSpace("", "a", " "), decl("", " ")),
		"<a xmlns:p='u'><b xmlns:p='v'/><c p:k=''/></a>":    withDecls(el("a", withDecls(el("b"), decl("p", "v")), withAttrs(el("c"), attr("p", "k", "u", ""))), decl("p", "u")),
		"<a xmlns:P='u' xmlns:p='v' P:k='' p:k=''/>":        withDecls(withAttrs(el("a"), attr("P", "k", "u", ""), attr("p", "k", "v", "")), decl("P", "u"), decl("p", "v")),
		"<a xmlns:xm='u' xmlns:XML='v' xmlns:axml='w'/>":    withDecls(el("a"), decl("XML", "v"), decl("axml", "w"), decl("xm", "u")),
		"<a xmlnsx='1' xmlns-='2' Xmlns='3' xml='4'/>":      withAttrs(el("a"), attr("", "Xmlns", "", "3"), attr("", "xml", "", "4"), attr("", "xmlns-", "", "2"), attr("", "xmlnsx", "", "1")),
		"<xmlns xmlns='xmlns'><xml/></xmlns>":               withDecls(inSpace("", "xmlns", "xmlns", inSpace("", "xml", "xmlns")), decl("", "xmlns")),
	} {
		wantTreeOf(t, s, want)
		wantTreeOf(t, "<!--n-->"+s, note("n"), want)
	}
	for _, s := range []string{
		"<p:a/>", "<p:a></p:a>", "<a p:k='1'/>", "<p:a xmlns='u'/>", "<a p:k='' xmlns='u'/>", "<p:a xmlns:q='u'/>", "<p:a xmlns:P='u'/>", "<a xmlns:p=''/>", "<a><b xmlns:p=''/></a>", "<p:a xmlns:p=''/>", "<a p:k='' xmlns:p=''/>", "<a xmlns:p='u'><b xmlns:p=''/></a>", "<a xmlns:p='&none;'/>",
		"<xml:a/>", "<xmlns:a/>", "<a xml:k='1'/>", "<a xml:lang='en'/>", "<a xmlns:xml='u'/>", "<a xmlns:xml='u' xml:k=''/>", "<xml:a xmlns:xml='u'/>", "<a xmlns:xmlns='u'/>", "<a xmlns:xmlx='u'/>", "<xmlx:a xmlns:xmlx='u'/>", "<a xmlns:xml='http://www.w3.org/XML/1998/namespace'/>", "<a xmlns:='u'/>", "<a xmlns:p:q='u'/>", "<a xmlns:1='u'/>",
		"<a><b xmlns:p='u'/><p:c/></a>", "<a><b xmlns:p='u'/><c p:k=''/></a>", "<a><b xmlns:p='u'></b><c p:k=''/></a>", "<p:a><b xmlns:p='u'/></p:a>", "<a p:k=''><b xmlns:p='u'/></a>", "<a><b xmlns:p='u'><c/></b><p:c/></a>",
		"<p:a xmlns:p='u' xmlns:q='u'></q:a>", "<a xmlns='u' xmlns:p='u'></p:a>", "<p:a xmlns='u' xmlns:p='u'></a>", "<a xmlns:p='u'><p:b></b></a>", "<p:a xmlns:p='u'></p:b>", "<p:a xmlns:p='u'></a:p>",
	} {
		wantNoTreeOf(t, s)
		wantNoTreeOf(t, "<!--n-->"+s)
		wantNoKids(t, s)
	}
}

func TestDefsThatHave(t *testing.T) {
	one := func(s string, of ...any) func(string, impl.Node) {
		return func(tree string, want impl.Node) {
			t.Helper()
			wantRead(t, within(s)+tree, head(of...), want)
		}
	}
	k := func(val string) impl.Attr { return attr("", "k", "", val) }
	on := one("<!ATTLIST a k CDATA 'd'>", valDef("a", "k", "d"))
	on("<a/>", withAttrs(el("a"), k("d")))
	on("<a></a>", withAttrs(el("a"), k("d")))
	on("<a k='1'/>", withAttrs(el("a"), k("1")))
	on("<a k=''/>", withAttrs(el("a"), k("")))
	on("<a j='1'/>", withAttrs(el("a"), attr("", "j", "", "1"), k("d")))
	on("<a xmlns:p='u' p:k='1'/>", withDecls(withAttrs(el("a"), k("d"), attr("p", "k", "u", "1")), decl("p", "u")))
	on("<a xmlns='u'/>", withDecls(withAttrs(inSpace("", "a", "u"), k("d")), decl("", "u")))
	// By the name as it stands there: not of another one, though it be in the same space, nor of one of it with a part ahead.
	on("<a><b/><a/><b><a k='1'/></b></a>", withAttrs(el("a", el("b"), withAttrs(el("a"), k("d")), el("b", withAttrs(el("a"), k("1")))), k("d")))
	on("<a xmlns='u' xmlns:p='u'><p:a/></a>", withDecls(withAttrs(inSpace("", "a", "u", inSpace("p", "a", "u")), k("d")), decl("", "u"), decl("p", "u")))
	on = one("<!ATTLIST p:b k CDATA 'd'>", valDef("p:b", "k", "d"))
	on("<a xmlns:p='u' xmlns:q='u' xmlns='u'><p:b/><q:b/><b/></a>", withDecls(inSpace("", "a", "u", withAttrs(inSpace("p", "b", "u"), k("d")), inSpace("q", "b", "u"), inSpace("", "b", "u")), decl("", "u"), decl("p", "u"), decl("q", "u")))
	on("<a><p:b xmlns:p='v'/></a>", el("a", withDecls(withAttrs(inSpace("p", "b", "v"), k("d")), decl("p", "v"))))
	// What has none says nothing.
	for _, of := range []impl.Def{implied("a", "k"), idDef("a", "k")} {
		kind := map[bool]string{false: "CDATA", true: "ID"}[of.Id]
		on = one("<!ATTLIST a k "+kind+" #IMPLIED>", of)
		on("<a/>", el("a"))
		on("<a k='1'/>", withAttrs(el("a"), k("1")))
	}
	on = one("<!ATTLIST a k CDATA ''>", valDef("a", "k", ""))
	on("<a/>", withAttrs(el("a"), k("")))
	on("<a k='1'/>", withAttrs(el("a"), k("1")))
	on = one("<!ATTLIST a k CDATA '1' j CDATA '2'><!ATTLIST b k CDATA '3'><!ATTLIST a i CDATA '4' h ID #IMPLIED>", valDef("a", "k", "1"), valDef("a", "j", "2"), valDef("b", "k", "3"), valDef("a", "i", "4"), idDef("a", "h"))
	on("<a><b/></a>", withAttrs(el("a", withAttrs(el("b"), k("3"))), attr("", "i", "", "4"), attr("", "j", "", "2"), k("1")))
	on("<a j='x'><b k='y'/></a>", withAttrs(el("a", withAttrs(el("b"), k("y"))), attr("", "i", "", "4"), attr("", "j", "", "x"), k("1")))
	on("<a h='x'/>", withAttrs(el("a"), attr("", "h", "", "x"), attr("", "i", "", "4"), attr("", "j", "", "2"), k("1")))
	on = one("<!ENTITY e 'x'><!ATTLIST a k CDATA '&e;\n&#10;&lt;'>", ent("e", "x"), valDef("a", "k", "x \n<"))
	on("<a/>", withAttrs(el("a"), k("x \n<")))
	on("<a k='&e;\n&#10;&lt;'>&e;</a>", withAttrs(el("a", txt("x")), k("x \n<")))
	// One that stands for what a mark is made of is none.
	on = one("<!ATTLIST a k CDATA '&amp;lt;&gt;&quot;'>", valDef("a", "k", "&lt;>\""))
	on("<a/>", withAttrs(el("a"), k("&lt;>\"")))
}

func TestDefsOfNamesWithAPartAhead(t *testing.T) {
	h := within("<!ATTLIST a p:k CDATA 'd'>")
	def := head(valDef("a", "p:k", "d"))
	pk := attr("p", "k", "u", "d")
	wantRead(t, h+"<a xmlns:p='u'/>", def, withDecls(withAttrs(el("a"), pk), decl("p", "u")))
	wantRead(t, h+"<a xmlns:p='u' p:k='1'/>", def, withDecls(withAttrs(el("a"), attr("p", "k", "u", "1")), decl("p", "u")))
	wantRead(t, h+"<a xmlns:p='u' k='1'/>", def, withDecls(withAttrs(el("a"), attr("", "k", "", "1"), pk), decl("p", "u")))
	wantRead(t, h+"<a xmlns:p='u'><a xmlns:p='v'/></a>", def, withDecls(withAttrs(el("a", withDecls(withAttrs(el("a"), attr("p", "k", "v", "d")), decl("p", "v"))), pk), decl("p", "u")))
	wantRead(t, h+"<a xmlns:p='u' xmlns:q='v' q:k='1'/>", def, withDecls(withAttrs(el("a"), pk, attr("q", "k", "v", "1")), decl("p", "u"), decl("q", "v")))
	// Its part ahead means nothing there, or the same as another one's does.
	for _, s := range []string{"<a/>", "<a k='1'/>", "<a xmlns='u'/>", "<a xmlns:q='u'/>", "<a xmlns:p='u' xmlns:q='u' q:k='1'/>", "<a xmlns:p=''/>", "<a><b xmlns:p='u'/></a>"} {
		wantNoTreeOf(t, h+s)
	}
	wantNoTreeOf(t, within("<!ATTLIST a xml:k CDATA 'd'>")+"<a/>")
	wantRead(t, within("<!ATTLIST b xml:k CDATA 'd' p:k CDATA 'd'>")+"<a/>", head(valDef("b", "xml:k", "d"), valDef("b", "p:k", "d")), el("a"))
	wantNoTreeOf(t, within("<!ATTLIST b p:k CDATA 'd'>")+"<a><b/></a>")
	wantNoTreeOf(t, within("<!ATTLIST a p:k CDATA 'd' q:k CDATA 'd'>")+"<a xmlns:p='u' xmlns:q='u'/>")
	wantRead(t, within("<!ATTLIST a p:k CDATA 'd' q:k CDATA 'd'>")+"<a xmlns:p='u' xmlns:q='v'/>", head(valDef("a", "p:k", "d"), valDef("a", "q:k", "d")), withDecls(withAttrs(el("a"), pk, attr("q", "k", "v", "d")), decl("p", "u"), decl("q", "v")))
}

func TestDefsOfDecls(t *testing.T) {
	h := within("<!ATTLIST a xmlns CDATA 'd'>")
	def := head(valDef("a", "xmlns", "d"))
	bare := withDecls(inSpace("", "a", "d"), decl("", "d"))
	wantRead(t, h+"<a/>", def, bare)
	wantRead(t, h+"<a></a>", def, bare)
	wantRead(t, h+"<a xmlns='u'/>", def, withDecls(inSpace("", "a", "u"), decl("", "u")))
	wantRead(t, h+"<a xmlns=''/>", def, withDecls(el("a"), decl("", "")))
	wantRead(t, h+"<a xmlns:p='u'/>", def, withDecls(inSpace("", "a", "d"), decl("", "d"), decl("p", "u")))
	wantRead(t, h+"<a k='1'><b/></a>", def, withDecls(withAttrs(inSpace("", "a", "d", inSpace("", "b", "d")), attr("", "k", "", "1")), decl("", "d")))
	// It counts within another one, too, whatever that one has said.
	wantRead(t, h+"<a xmlns='u'><b/><a/></a>", def, withDecls(inSpace("", "a", "u", inSpace("", "b", "u"), bare), decl("", "u")))
	wantRead(t, within("<!ATTLIST b xmlns CDATA ''>")+"<a xmlns='u'><b/></a>", head(valDef("b", "xmlns", "")), withDecls(inSpace("", "a", "u", withDecls(el("b"), decl("", ""))), decl("", "u")))
	wantRead(t, within("<!ATTLIST a xmlns CDATA #IMPLIED xmlns:p ID #IMPLIED>")+"<a/>", head(implied("a", "xmlns"), idDef("a", "xmlns:p")), el("a"))

	h = within("<!ATTLIST a xmlns:p CDATA 'd'>")
	def = head(valDef("a", "xmlns:p", "d"))
	wantRead(t, h+"<a/>", def, withDecls(el("a"), decl("p", "d")))
	wantRead(t, h+"<a xmlns:p='u'/>", def, withDecls(el("a"), decl("p", "u")))
	wantRead(t, h+"<a xmlns='u'/>", def, withDecls(inSpace("", "a", "u"), decl("", "u"), decl("p", "d")))
	wantRead(t, h+"<a p:k='1'><p:b/></a>", def, withDecls(withAttrs(el("a", inSpace("p", "b", "d")), attr("p", "k", "d", "1")), decl("p", "d")))
	wantRead(t, h+"<a xmlns:p='u' p:k='1'/>", def, withDecls(withAttrs(el("a"), attr("p", "k", "u", "1")), decl("p", "u")))
	p := impl.Head{Name: "p:a", Defs: []impl.Def{valDef("p:a", "xmlns:p", "d"), valDef("p:a", "p:k", "1")}}
	wantRead(t, "<!DOCTYPE p:a [<!ATTLIST p:a xmlns:p CDATA 'd' p:k CDATA '1'>]><p:a/>", p, withDecls(withAttrs(inSpace("p", "a", "d"), attr("p", "k", "d", "1")), decl("p", "d")))
	p.Defs[0], p.Defs[1] = p.Defs[1], p.Defs[0]
	wantRead(t, "<!DOCTYPE p:a [<!ATTLIST p:a p:k CDATA '1' xmlns:p CDATA 'd'>]><p:a></p:a>", p, withDecls(withAttrs(inSpace("p", "a", "d"), attr("p", "k", "d", "1")), decl("p", "d")))
	for _, s := range []string{
		within("<!ATTLIST a xmlns:p CDATA ''>") + "<a/>", within("<!ATTLIST a xmlns:xml CDATA 'u'>") + "<a/>", within("<!ATTLIST a xmlns:xmlns CDATA 'u'>") + "<a/>",
		within("<!ATTLIST a xmlns:p CDATA 'd'>") + "<a xmlns:p=''/>", within("<!ATTLIST b xmlns:p CDATA 'd'>") + "<a p:k=''><b/></a>", within("<!ATTLIST b xmlns:p CDATA 'd'>") + "<a><b/><p:b/></a>",
		within("<!ATTLIST a xmlns CDATA '"+strings.Repeat("u", impl.MaxUri+1)+"'>") + "<a/>",
	} {
		wantNoTreeOf(t, s)
	}
	uri := strings.Repeat("u", impl.MaxUri)
	wantRead(t, within("<!ATTLIST a xmlns CDATA '"+uri+"'>")+"<a/>", head(valDef("a", "xmlns", uri)), withDecls(inSpace("", "a", uri), decl("", uri)))
}

func TestByte13InTrees(t *testing.T) {
	for _, turned := range []string{"\r", "\r\n"} {
		wantKids(t, turned, txt("\n"))
		wantKids(t, "x"+turned+"y", txt("x\ny"))
		wantKids(t, turned+turned, txt("\n\n"))
		wantKids(t, turned+"<b/>"+turned, txt("\n"), el("b"), txt("\n"))
		wantKids(t, "<![CDATA["+turned+"]]>", txt("\n"))
		wantKids(t, "<!--"+turned+"-->", note("\n"))
		wantKids(t, "<!--x"+turned+"-->", note("x\n"))
		wantKids(t, "<?t"+turned+"go"+turned+"?>", told("t", "go\n"))
		wantKids(t, "<?t x"+turned+"y?>", told("t", "x\ny"))
		// In an Attr it is one blank, whether byte 10 stands behind it or not.
		wantKids(t, "<b k='x"+turned+"y'/>", withAttrs(el("b"), attr("", "k", "", "x y")))
		wantKids(t, "<b"+turned+"k"+turned+"="+turned+"''"+turned+"></b"+turned+">", withAttrs(el("b"), attr("", "k", "", "")))
		wantTreeOf(t, turned+"<!--"+turned+"-->"+turned+"<a/>"+turned+"<?t "+turned+"x"+turned+"?>"+turned, note("\n"), el("a"), told("t", "x\n"))
		wantRead(t, turned+"<!DOCTYPE"+turned+"a["+turned+"<!ENTITY e 'x"+turned+"y'><!--"+turned+"--><!ATTLIST a k CDATA '"+turned+"'>]>"+turned+"<a>&e;</a>", head(ent("e", "x\ny"), valDef("a", "k", " ")), withAttrs(el("a", txt("x\ny")), attr("", "k", "", " ")))
	}
	wantKids(t, "\r\r\n\n", txt("\n\n\n"))
	wantKids(t, "\n\r", txt("\n\n"))
	wantKids(t, "<b k='\r\n\r\r\n'/>", withAttrs(el("b"), attr("", "k", "", "   ")))
	wantKids(t, "\r<![CDATA[\n]]>", txt("\n\n"))
	// What is told by number stays what it is.
	wantKids(t, "&#13;", txt("\r"))
	wantKids(t, "&#13;\n", txt("\r\n"))
	wantKids(t, "\r&#10;", txt("\n\n"))
	wantKids(t, "<b k='&#13;&#10;&#9;\r'/>", withAttrs(el("b"), attr("", "k", "", "\r\n\t ")))
	wantKids(t, "<!--&#13;-->", note("&#13;"))
	for _, x := range someTrees() {
		s := strings.ReplaceAll(x.text(), "\n", "\r\n")
		wantRead(t, s, x.h, x.kids...)
		wantRead(t, strings.ReplaceAll(s, "\r\n", "\r"), x.h, x.kids...)
	}
}

func TestTreesOfMaxDoc(t *testing.T) {
	blanks := func(n int) string { return strings.Repeat(" ", n) }
	for _, s := range []string{"<a/>", "<a></a>", "<!DOCTYPE a><a/>"} {
		h := impl.Head{}
		if strings.HasPrefix(s, "<!") {
			h = head()
		}
		room := impl.MaxDoc - len(s)
		wantRead(t, blanks(room)+s, h, el("a"))
		wantRead(t, s+blanks(room), h, el("a"))
		wantRead(t, blanks(room/2)+s+blanks(room-room/2), h, el("a"))
		wantNoTreeOf(t, blanks(room+1)+s)
		wantNoTreeOf(t, s+blanks(room+1))
		wantNoTreeOf(t, blanks(room/2)+s+blanks(room-room/2+1))
		wantNoTreeOf(t, blanks(room*1000)+s)
		// It is counted where each byte 13 is turned.
		wantRead(t, s+strings.Repeat("\r\n", room), h, el("a"))
		wantRead(t, strings.Repeat("\r\n", room-1)+"\r"+s, h, el("a"))
		wantNoTreeOf(t, s+strings.Repeat("\r\n", room+1))
		wantNoTreeOf(t, s+strings.Repeat("\r", room+1))
	}
	just, rest := strings.Repeat("x", impl.MaxText), strings.Repeat("y", impl.MaxDoc-2*impl.MaxText-2*len("<!---->")-len("<a></a>"))
	wantTreeOf(t, "<a>"+just+"<!---->"+just+"<!---->"+rest+"</a>", el("a", txt(just), note(""), txt(just), note(""), txt(rest)))
	wantNoTreeOf(t, "<a>"+just+"<!---->"+just+"<!---->"+rest+"y</a>")
	wantNoTreeOf(t, "<a>"+just+"<!---->"+just+"<!---->"+rest+"</a>\n")
	wantNoTreeOf(t, "\n<a>"+just+"<!---->"+just+"<!---->"+rest+"</a>")
	// Bytes are counted, not signs.
	signs := strings.Repeat("\u00e9", impl.MaxText/2)
	wantTreeOf(t, "<a>"+signs+"<!---->"+signs+"<!---->"+rest+"</a>", el("a", txt(signs), note(""), txt(signs), note(""), txt(rest)))
	wantNoTreeOf(t, "<a>"+signs+"<!---->"+signs+"<!---->"+rest+"y</a>")
}

func TestMaxAttrsOfWhatIsRead(t *testing.T) {
	raws := func(n int) string {
		s := ""
		for i := range n {
			s = " k" + string(rune('a'+i)) + "=''" + s
		}
		return s
	}
	wantTreeOf(t, "<a"+raws(impl.MaxAttrs)+"/>", withAttrs(el("a"), plainAttrs(impl.MaxAttrs)...))
	wantTreeOf(t, "<a"+raws(impl.MaxAttrs)+" xmlns='' xmlns:p='u'/>", withDecls(withAttrs(el("a"), plainAttrs(impl.MaxAttrs)...), decl("", ""), decl("p", "u")))
	wantNoTreeOf(t, "<a"+raws(impl.MaxAttrs+1)+"/>")
	wantNoKids(t, "<b"+raws(impl.MaxAttrs+1)+"/>")
	wantNoTreeOf(t, "<a"+raws(impl.MaxAttrs)+" xmlns:p='u' p:k=''/>")
	// Those of Defs count likewise.
	h, def := within("<!ATTLIST a kd CDATA '' ke CDATA '' kz CDATA #IMPLIED>"), head(valDef("a", "kd", ""), valDef("a", "ke", ""), implied("a", "kz"))
	wantRead(t, h+"<a"+raws(3)+"/>", def, withAttrs(el("a"), plainAttrs(5)...))
	wantRead(t, h+"<a"+raws(4)+"/>", def, withAttrs(el("a"), plainAttrs(5)...))
	wantRead(t, h+"<a"+raws(5)+"/>", def, withAttrs(el("a"), plainAttrs(5)...))
	wantNoTreeOf(t, h+"<a"+raws(3)+" z=''/>")
	wantNoTreeOf(t, h+"<a"+raws(4)+" z=''/>")
	val := strings.Repeat("v", impl.MaxText)
	wantTreeOf(t, "<a k='"+val+"'/>", withAttrs(el("a"), attr("", "k", "", val)))
	wantNoTreeOf(t, "<a k='"+val+"v'/>")
	wantNoTreeOf(t, "<a k='"+val+"&#118;'/>")
}

func TestMaxDeclsOfWhatIsRead(t *testing.T) {
	four := []impl.Decl{decl("", "u"), decl("p", "u"), decl("q", "v"), decl("r", "w")}
	wantTreeOf(t, "<a xmlns:r='w' xmlns:q='v' xmlns:p='u' xmlns='u'/>", withDecls(inSpace("", "a", "u"), four...))
	wantNoTreeOf(t, "<a xmlns:r='w' xmlns:q='v' xmlns:p='u' xmlns='u' xmlns:s='x'/>")
	wantNoTreeOf(t, "<a xmlns:r='w' xmlns:q='v' xmlns:p='u' xmlns:t='u' xmlns:s='x'/>")
	wantNoKids(t, "<a xmlns:r='w' xmlns:q='v' xmlns:p='u' xmlns='u' xmlns:s='x'/>")
	// As many as may be of one element; those outside of it do not count.
	wantTreeOf(t, "<a xmlns:r='w' xmlns:q='v' xmlns:p='u' xmlns='u'><b xmlns:s='x' xmlns:r='y'/></a>", withDecls(inSpace("", "a", "u", withDecls(inSpace("", "b", "u"), decl("r", "y"), decl("s", "x"))), four...))
	h := within("<!ATTLIST a xmlns CDATA 'u' xmlns:p CDATA 'u'>")
	def := head(valDef("a", "xmlns", "u"), valDef("a", "xmlns:p", "u"))
	wantRead(t, h+"<a xmlns:q='v' xmlns:r='w'/>", def, withDecls(inSpace("", "a", "u"), four...))
	wantRead(t, h+"<a xmlns:q='v' xmlns:r='w' xmlns='u'/>", def, withDecls(inSpace("", "a", "u"), four...))
	wantNoTreeOf(t, h+"<a xmlns:q='v' xmlns:r='w' xmlns:s='x'/>")
	for _, sign := range []string{"u", "\u00e9", "\U00010000"} {
		uri := strings.Repeat(sign, impl.MaxUri/len(sign))
		wantTreeOf(t, "<a xmlns='"+uri+"' xmlns:p='"+uri+"'/>", withDecls(inSpace("", "a", uri), decl("", uri), decl("p", uri)))
		wantNoTreeOf(t, "<a xmlns='"+uri+"x'/>")
		wantNoTreeOf(t, "<a xmlns:p='"+uri+"x'/>")
		wantTreeOf(t, "<a xmlns='"+strings.Repeat("&lt;", impl.MaxUri)+"'/>", withDecls(inSpace("", "a", strings.Repeat("<", impl.MaxUri)), decl("", strings.Repeat("<", impl.MaxUri))))
	}
}

func TestMaxDeepOfWhatIsRead(t *testing.T) {
	deep := func(n int, s string) string { return strings.Repeat("<w>", n) + s + strings.Repeat("</w>", n) }
	chainOf := func(n int, last ...impl.Node) impl.Node {
		for range n {
			last = []impl.Node{el("w", last...)}
		}
		return last[0]
	}
	wantTreeOf(t, deep(impl.MaxDeep, ""), chainOf(impl.MaxDeep))
	wantTreeOf(t, deep(impl.MaxDeep-1, "<w/>"), chainOf(impl.MaxDeep))
	wantTreeOf(t, deep(impl.MaxDeep, "x"), chainOf(impl.MaxDeep, txt("x")))
	wantTreeOf(t, deep(impl.MaxDeep, "<!--n--><?t?>"), chainOf(impl.MaxDeep, note("n"), told("t", "")))
	wantTreeOf(t, deep(impl.MaxDeep-1, "<w/><w></w>"), chainOf(impl.MaxDeep-1, el("w"), el("w")))
	wantNoTreeOf(t, deep(impl.MaxDeep+1, ""))
	wantNoTreeOf(t, deep(impl.MaxDeep, "<w/>"))
	wantNoTreeOf(t, deep(impl.MaxDeep, "<w/>x"))
	wantNoTreeOf(t, deep(2, deep(impl.MaxDeep-2, "<w/>")+"<w/>"))
	for _, n := range []int{50, 200, 214, 1000, 100000} {
		wantNoTreeOf(t, deep(n, ""))
		wantNoTreeOf(t, strings.Repeat("<w>", n))
		wantNoTreeOf(t, strings.Repeat("</w>", n))
	}
}

func TestMaxNodesOfWhatIsRead(t *testing.T) {
	// The whole text and its element are two of them.
	room := impl.MaxNodes - 2
	kids := func(n int) []impl.Node { return slices.Repeat([]impl.Node{el("b")}, n) }
	wantTreeOf(t, "<a>"+strings.Repeat("<b/>", room)+"</a>", el("a", kids(room)...))
	wantNoTreeOf(t, "<a>"+strings.Repeat("<b/>", room+1)+"</a>")
	wantNoTreeOf(t, "<a>"+strings.Repeat("<b/>", room)+"x</a>")
	wantNoTreeOf(t, "<a>"+strings.Repeat("<b/>", room)+"</a><!---->")
	wantNoTreeOf(t, "<?t?><a>"+strings.Repeat("<b/>", room)+"</a>")
	wantNoTreeOf(t, "<a k=''>"+strings.Repeat("<b/>", room)+"</a>")
	wantNoTreeOf(t, within("<!ATTLIST a k CDATA ''>")+"<a>"+strings.Repeat("<b/>", room)+"</a>")
	// Attrs are counted, Decls are not; nor what comes to nothing, or is one in the end.
	wantTreeOf(t, "<a k='' xmlns:p='u'>"+strings.Repeat("<b/>", room-1)+"<![CDATA[]]></a>", withDecls(withAttrs(el("a", kids(room-1)...), attr("", "k", "", "")), decl("p", "u")))
	wantTreeOf(t, " <a>"+strings.Repeat("<b/>", room-1)+"x<![CDATA[y]]>z</a>\n", el("a", append(kids(room-1), txt("xyz"))...))
	wantTreeOf(t, strings.Repeat("<!---->", room)+"<a/>", append(slices.Repeat([]impl.Node{note("")}, room), el("a"))...)
	wantNoTreeOf(t, strings.Repeat("<!---->", room+1)+"<a/>")
	wantTreeOf(t, "<a/>"+strings.Repeat("<?t?>", room), append([]impl.Node{el("a")}, slices.Repeat([]impl.Node{told("t", "")}, room)...)...)
	wantNoTreeOf(t, "<a/>"+strings.Repeat("<?t?>", room+1))
}

// A text by its pieces: between any two of them a mark may come. The head is piece number head (-1: there is none),
// and the element ends behind piece number end.
type writtenTree struct {
	pieces []string
	head   int
	end    int
	h      impl.Head
	kids   []impl.Node
}

func (x writtenTree) text() string {
	return strings.Join(x.pieces, "")
}

// someTrees are texts of each form.
func someTrees() []writtenTree {
	return []writtenTree{
		{[]string{"<a/>"}, -1, 0, impl.Head{}, []impl.Node{el("a")}},
		{[]string{"<a>", "</a>"}, -1, 1, impl.Head{}, []impl.Node{el("a")}},
		{[]string{textStarts[0], "<!DOCTYPE a>", "<a\n>", "x", "</a >"}, 1, 4, head(), []impl.Node{el("a", txt("x"))}},
		{
			[]string{textStarts[1], "\n", "<!--h-->", within("<!ENTITY e 'x'><!ATTLIST b k CDATA '1\n' id ID #IMPLIED>"), "\n", "<?t?>", "<a xmlns='u' xmlns:p=\"v\" p:k='2' j='&lt;&e;\n'>", "t&e;\n", "<![CDATA[<]]>", "<b id='i'/>", "<p:c xmlns=''>", "<b>", "y", "</b>", "</p:c>", "<!--n-->", "<?t go?>", "\n", "</a>", "<?t go?>", "\n"},
			3, 18,
			head(ent("e", "x"), valDef("b", "k", "1 "), idDef("b", "id")),
			[]impl.Node{
				note("h"), told("t", ""),
				withDecls(withAttrs(inSpace("", "a", "u",
					txt("tx\n<"), withAttrs(inSpace("", "b", "u"), attr("", "id", "", "i"), attr("", "k", "", "1 ")),
					withDecls(inSpace("p", "c", "v", withAttrs(el("b", txt("y")), attr("", "k", "", "1 "))), decl("", "")),
					note("n"), told("t", "go"), txt("\n")),
					attr("", "j", "", "<x "), attr("p", "k", "v", "2")), decl("", "u"), decl("p", "v")),
				told("t", "go"),
			},
		},
		{
			[]string{"<p:a xmlns:p='\u00e9'>", "<p:a>", "<p:b p:k='\u3042'/>", "</p:a>", "<p:a/>", "&#65;", "</p:a>", "<!--n-->"},
			-1, 6, impl.Head{},
			[]impl.Node{withDecls(inSpace("p", "a", "\u00e9", inSpace("p", "a", "\u00e9", withAttrs(inSpace("p", "b", "\u00e9"), attr("p", "k", "\u00e9", "\u3042"))), inSpace("p", "a", "\u00e9"), txt("A")), decl("p", "\u00e9")), note("n")},
		},
	}
}

func TestSomeTrees(t *testing.T) {
	for _, x := range someTrees() {
		wantRead(t, x.text(), x.h, x.kids...)
		wantNoTreeOf(t, x.text()+x.text())
	}
}

// Up to where its element ends it is no tree anywhere; behind that, where a mark has come to its end.
func TestTreesThatAreCutOff(t *testing.T) {
	for _, x := range someTrees() {
		s, done := x.text(), map[int]int{}
		for i := x.end; i < len(x.pieces); i++ {
			done[len(strings.Join(x.pieces[:i+1], ""))]++
		}
		for i := range len(s) {
			if done[i] == 0 {
				wantNoTreeOf(t, s[:i])
			} else if n, h, ok := impl.ReadTree(s[:i]); !ok || !impl.TreeOk(n) || !sameHead(h, x.h) {
				t.Errorf("ReadTree(%q) = %+v, %+v, %v", s[:i], n, h, ok)
			}
			checkTree(t, s[:i])
			checkTree(t, s[i:])
		}
	}
}

// One byte in each place that is no sign, or the beginning of none: it is no text then, wherever it stands.
func TestBrokenBytesInTrees(t *testing.T) {
	for _, x := range someTrees() {
		s := x.text()
		for _, wrong := range noTexts {
			for i := range len(s) + 1 {
				wantNoTreeOf(t, s[:i]+wrong+s[i:])
			}
		}
	}
}

func TestWrongMarksAtEachPlace(t *testing.T) {
	wrong := []string{
		"<", "<1/>", "</", "</nope>", "<nope>", "<!x>", "<!DOCTYPE a>", "<!DOCTYPE p:a []>", "&nope;", "&", "]]>", "<![CDATA", "<!--", "<!--a--b-->", "<!--a--->", "<?xml?>", "<?xml version=\"1.0\"?>", "<?", "<?t>", "<?p:t?>",
		"<b k='1' k='2'/>", "<nope:b/>", "<b nope:k='1'/>", "<b xmlns:p=''/>", "<b xmlns:xml='u'/>", "<b xml:k=''/>", "<b k=''", "<b k='<'/>", "<b k='&nope;'/>", "<b k=/>", "<!ENTITY f 'x'>", "<!ATTLIST b z CDATA ''>", "</nope><nope>", "\x00", "\xff", "\uFFFE",
	}
	for _, x := range someTrees() {
		for i := range len(x.pieces) + 1 {
			ahead, behind := strings.Join(x.pieces[:i], ""), strings.Join(x.pieces[i:], "")
			for _, w := range wrong {
				// One head may come, if it is the element's, and there is none.
				headMayCome := x.head < 0 && i == 0 && (w == "<!DOCTYPE a>" && strings.HasPrefix(behind, "<a") || w == "<!DOCTYPE p:a []>" && strings.HasPrefix(behind, "<p:a"))
				// And what a text begins with at its beginning.
				startMayCome := i == 0 && strings.HasPrefix(w, "<?xml v") && x.pieces[0] != textStarts[0] && x.pieces[0] != textStarts[1]
				if !headMayCome && !startMayCome {
					wantNoTreeOf(t, ahead+w+behind)
				}
			}
		}
	}
}

var (
	startOfText = regexp.MustCompile(`^<\?xml version="1\.0"( encoding="UTF-8")?\?>`)
	signsAlone  = regexp.MustCompile(`^[\t\n\r -\x{D7FF}\x{E000}-\x{FFFD}\x{10000}-\x{10FFFF}]*$`)
	someBeside  = regexp.MustCompile(`^` + blankForm + `+`)
)

// plainReading is another way to the same, as plainMark and plainHead are: it goes down by calling itself, and what the parts ahead mean is a map.
type plainReading struct {
	rest string
	head impl.Head
}

func plainTree(s string) (impl.Node, impl.Head, bool) {
	s = normOf(s)
	p := &plainReading{rest: s[len(startOfText.FindString(s)):]}
	kids := p.beside()
	if h, size, ok := plainHead(p.rest); ok {
		p.head, p.rest = h, p.rest[size:]
	}
	kids = append(kids, p.beside()...)
	m, size, _ := plainMark(p.rest, p.head.Ents)
	p.rest = p.rest[size:]
	n, ok := p.element(m, map[string]string{"": ""})
	tree := doc(append(append(kids, n), p.beside()...)...)
	if !ok || p.rest != "" || p.head.Name != "" && p.head.Name != m.Name || len(s) > 1500 || !utf8.ValidString(s) || !signsAlone.MatchString(s) || !impl.TreeOk(tree) {
		return impl.Node{}, impl.Head{}, false
	}
	return tree, p.head, true
}

func (p *plainReading) beside() []impl.Node {
	var l []impl.Node
	for {
		p.rest = p.rest[len(someBeside.FindString(p.rest)):]
		m, size, _ := plainMark(p.rest, nil)
		switch m.Kind {
		case impl.MkNote:
			l = append(l, note(m.Text))
		case impl.MkTold:
			l = append(l, told(m.Name, m.Text))
		default:
			return l
		}
		p.rest = p.rest[size:]
	}
}

func (p *plainReading) element(m impl.Mark, means map[string]string) (impl.Node, bool) {
	if m.Kind != impl.MkOpen {
		return impl.Node{}, false
	}
	raws := map[string]string{}
	for _, x := range m.Raws {
		raws[x.Name] = x.Val
	}
	if len(raws) < len(m.Raws) {
		return impl.Node{}, false
	}
	for _, d := range p.head.Defs {
		if _, there := raws[d.At]; d.Has && d.El == m.Name && !there {
			raws[d.At] = d.Val
		}
	}
	n, ok := plainOpened(m.Name, raws, maps.Clone(means))
	if !ok || m.Empty {
		return n, ok
	}
	means = maps.Clone(means)
	for _, d := range n.Decls {
		means[d.Pre] = d.Uri
	}
	n.Kids, ok = p.kids(m.Name, means)
	return n, ok
}

func plainOpened(name string, raws map[string]string, means map[string]string) (impl.Node, bool) {
	n := impl.Node{Kind: impl.NdEl}
	attrs := map[string]string{}
	for _, x := range slices.Sorted(maps.Keys(raws)) {
		switch {
		case x == "xmlns":
			n.Decls = append(n.Decls, decl("", raws[x]))
			means[""] = raws[x]
		case strings.HasPrefix(x, "xmlns:"):
			n.Decls = append(n.Decls, decl(x[6:], raws[x]))
			means[x[6:]] = raws[x]
		default:
			attrs[x] = raws[x]
		}
	}
	byOrder := map[[2]string]impl.Attr{}
	for x, val := range attrs {
		a := attr("", x, "", val)
		if pre, local, ok := strings.Cut(x, ":"); ok {
			uri, declared := means[pre]
			if !declared {
				return n, false
			}
			a = attr(pre, local, uri, val)
		}
		byOrder[[2]string{a.Uri, a.Local}] = a
	}
	for _, x := range slices.SortedFunc(maps.Keys(byOrder), func(a, b [2]string) int { return slices.Compare(a[:], b[:]) }) {
		n.Attrs = append(n.Attrs, byOrder[x])
	}
	pre, local, ok := strings.Cut(name, ":")
	if !ok {
		pre, local = "", name
	}
	uri, declared := means[pre]
	n.Pre, n.Local, n.Uri = pre, local, uri
	return n, declared && len(byOrder) == len(attrs)
}

// kids are those up to the mark that closes the name.
func (p *plainReading) kids(name string, means map[string]string) ([]impl.Node, bool) {
	var l []impl.Node
	text := ""
	put := func(n ...impl.Node) {
		if text != "" {
			l = append(l, txt(text))
		}
		text = ""
		l = append(l, n...)
	}
	for {
		m, size, _ := plainMark(p.rest, p.head.Ents)
		p.rest = p.rest[size:]
		switch m.Kind {
		case impl.MkText:
			text += m.Text
		case impl.MkNote:
			put(note(m.Text))
		case impl.MkTold:
			put(told(m.Name, m.Text))
		case impl.MkOpen:
			n, ok := p.element(m, means)
			if !ok {
				return nil, false
			}
			put(n)
		default:
			put()
			return l, m.Kind == impl.MkClose && m.Name == name
		}
	}
}

// checkTree holds what is read against the other way, and asks IdsOf of it.
func checkTree(t *testing.T, s string) bool {
	t.Helper()
	n, h, ok := impl.ReadTree(s)
	want, wantHead, wantOk := plainTree(s)
	if ok != wantOk || !alike([]impl.Node{n}, []impl.Node{want}) || !sameHead(h, wantHead) {
		t.Fatalf("ReadTree(%q) = %+v, %+v, %v; want %+v, %+v, %v", s, n, h, ok, want, wantHead, wantOk)
	}
	if ok && !impl.TreeOk(n) {
		t.Fatalf("ReadTree(%q) = %+v, which is no right tree", s, n)
	}
	if ok {
		wantBack(t, n)
	}
	if got, want := impl.IdsOf(n, h), plainIds(n, h); !slices.Equal(got, want) {
		t.Fatalf("IdsOf the tree of %q = %+v; want %+v", s, got, want)
	}
	return ok
}

func TestTreesAnotherWay(t *testing.T) {
	read := 0
	check := func(ahead string, behind string, pieces []string, length int) {
		t.Helper()
		for _, s := range allOf(pieces, length) {
			if checkTree(t, ahead+s+behind) {
				read++
			}
		}
	}
	ents := within("<!ENTITY e 'x'><!ENTITY none ''>")
	check("", "", []string{"<a>", "</a>", "<b>", "</b>", "<a/>", "x", " ", "<!--n-->"}, 5)
	check(ents+"<a>", "</a>", []string{"<b>", "</b>", "<b/>", "x", "\r\n", "&e;", "&none;", "<!--n-->", "<?t?>", "<![CDATA[]]>", "<![CDATA[y]]>"}, 4)
	check("<a", "><p:b q:k=''/><b k=''/></a>", []string{" xmlns='u'", " xmlns=''", " xmlns:p='u'", " xmlns:p='v'", " xmlns:q='u'", " xmlns:q=''", " k='1'", " p:k='2'", " q:k='3'", " q:j='4'"}, 4)
	check("<a xmlns:p='u'>", "</a>", []string{"<a xmlns='v'>", "<p:a xmlns:p='v'>", "<a>", "<p:a>", "</a>", "</p:a>", "<a p:k='1'/>", "<b xmlns=''/>", "<a xmlns:q='w' q:k=''/>"}, 4)
	check("", "<a/>", []string{textStarts[0], textStarts[1], " ", "\r", "<!--n-->", "<?t go?>", "<?xml?>", "<!DOCTYPE a>", "<!DOCTYPE b>", within("<!ATTLIST a k CDATA 'd'>"), "x"}, 4)
	check("<!DOCTYPE a><a/>", "", []string{" ", "\r\n", "<!--n-->", "<?t go?>", "x", "<b/>", "&#32;", "<![CDATA[]]>", "<!DOCTYPE a>"}, 4)
	check("<!DOCTYPE a [", "]><a xmlns:p='u' i='1'><a k='2'/><p:a p:k='3'/></a>", []string{"<!ATTLIST a k CDATA 'd'>", "<!ATTLIST a k ID #IMPLIED i ID #IMPLIED>", "<!ATTLIST a p:k CDATA 'd'>", "<!ATTLIST p:a p:k ID #IMPLIED>", "<!ATTLIST p:a xmlns CDATA 'v'>", "<!ATTLIST a xmlns CDATA 'w'>", "<!ATTLIST a xmlns:p CDATA 'w'>", "<!ATTLIST p:a xmlns:p CDATA 'w'>", "<!ATTLIST b k CDATA 'd'>"}, 4)
	if read < 14000 {
		t.Errorf("only %d trees were read", read)
	}
}

// Each byte of some texts as another one, one more, and one less.
func TestTreesOfTextsThatAreTurnedABit(t *testing.T) {
	others := []string{"", "<", ">", "/", "!", "?", "-", "[", "]", "&", ";", ":", "=", "'", "\"", " ", "\n", "\r", "a", "b", "p", "x", "k", "1", "#", "--", "]]>", "\u00e9", "\xe9", "\x00"}
	read := 0
	for _, x := range someTrees() {
		s := x.text()
		for i := range len(s) {
			for _, o := range others {
				if checkTree(t, s[:i]+o+s[i+1:]) {
					read++
				}
				if checkTree(t, s[:i]+o+s[i:]) {
					read++
				}
			}
		}
	}
	if read < 2000 {
		t.Errorf("only %d trees were read", read)
	}
}

// memory is where the elements of a list lie, with the room behind them.
type memory struct {
	from uintptr
	to   uintptr
}

func memoryOf(list any) []memory {
	v := reflect.ValueOf(list)
	if v.Cap() == 0 {
		return nil
	}
	return []memory{{v.Pointer(), v.Pointer() + uintptr(v.Cap())*v.Type().Elem().Size()}}
}

// nodeMemory is of each list that a node has, and those below it.
func nodeMemory(n impl.Node) []memory {
	l := slices.Concat(memoryOf(n.Decls), memoryOf(n.Attrs), memoryOf(n.Kids))
	for _, k := range n.Kids {
		l = append(l, nodeMemory(k)...)
	}
	return l
}

func headMemory(h impl.Head) []memory {
	return slices.Concat(memoryOf(h.Ents), memoryOf(h.Defs))
}

// wantApart asks that no two of them share anything.
func wantApart(t *testing.T, l []memory) {
	t.Helper()
	for i, a := range l {
		for _, b := range l[:i] {
			if a.from < b.to && b.from < a.to {
				t.Errorf("two lists share memory: %x and %x", a, b)
			}
		}
	}
}

func TestTreesShareNothing(t *testing.T) {
	for _, x := range someTrees() {
		n, h, _ := impl.ReadTree(x.text())
		again, headAgain, _ := impl.ReadTree(x.text())
		ids := impl.IdsOf(n, h)
		wantApart(t, slices.Concat(nodeMemory(n), headMemory(h), nodeMemory(again), headMemory(headAgain), memoryOf(ids)))
		spoil(n.Kids)
		for i := range h.Ents {
			h.Ents[i] = ent("written", "w")
		}
		for i := range h.Defs {
			h.Defs[i] = valDef("written", "w", "w")
		}
		if !alike(again.Kids, x.kids) || !sameHead(headAgain, x.h) {
			t.Errorf("what is written into one answer is seen in the other: %+v, %+v", again, headAgain)
		}
		// What was refused leaves nothing behind.
		wantNoTreeOf(t, x.text()+"<a/>")
		wantRead(t, x.text(), x.h, x.kids...)
	}
}

// plainIds is another way to what IdsOf tells: by a list of what is still to be looked at.
func plainIds(n impl.Node, h impl.Head) []impl.Attr {
	kinds := map[[2]string]bool{}
	for _, d := range slices.Backward(h.Defs) {
		kinds[[2]string{d.El, d.At}] = d.Id
	}
	var ids []impl.Attr
	for ahead := []impl.Node{n}; len(ahead) > 0; {
		n, ahead = ahead[0], ahead[1:]
		ahead = append(slices.Clone(n.Kids), ahead...)
		for _, a := range n.Attrs {
			if n.Kind == impl.NdEl && kinds[[2]string{strings.TrimPrefix(n.Pre+":"+n.Local, ":"), strings.TrimPrefix(a.Pre+":"+a.Local, ":")}] {
				ids = append(ids, a)
			}
		}
	}
	return ids
}

func wantIds(t *testing.T, n impl.Node, h impl.Head, want ...impl.Attr) {
	t.Helper()
	if got := impl.IdsOf(n, h); !slices.Equal(got, want) {
		t.Errorf("IdsOf(%+v, %+v) = %+v; want %+v", n, h, got, want)
	}
}

// wantIdsOf is of a text.
func wantIdsOf(t *testing.T, s string, want ...impl.Attr) {
	t.Helper()
	n, h, ok := impl.ReadTree(s)
	if !ok {
		t.Errorf("ReadTree(%q) reads nothing", s)
	}
	wantIds(t, n, h, want...)
}

func TestIdsOf(t *testing.T) {
	id := func(val string) impl.Attr { return attr("", "id", "", val) }
	wantIdsOf(t, "<a id='1'/>")
	wantIdsOf(t, "<!DOCTYPE a><a id='1'/>")
	h := within("<!ATTLIST a id ID #IMPLIED>")
	wantIdsOf(t, h+"<a/>")
	wantIdsOf(t, h+"<a k='1'/>")
	wantIdsOf(t, h+"<a id='1'/>", id("1"))
	wantIdsOf(t, h+"<a id=''/>", id(""))
	wantIdsOf(t, h+"<a ID='1' Id='2' iD='3'/>")
	wantIdsOf(t, h+"<a><b id='1'/></a>")
	wantIdsOf(t, h+"<a><b><a id='1'/></b></a>", id("1"))
	// In order: an element's ahead of those below it, and these one behind the other; one may stand several times.
	wantIdsOf(t, h+"<a id='1'><a id='2'><a id='3'/></a><b id='4'><a id='5'/></b>x<!--n--><a id='1'/></a><!--n-->", id("1"), id("2"), id("3"), id("5"), id("1"))
	wantIdsOf(t, within("<!ATTLIST a id ID #IMPLIED j ID #IMPLIED><!ATTLIST b id ID #IMPLIED>")+"<a j='1' id='2' k='3'><b j='4' id='5'/></a>", id("2"), attr("", "j", "", "1"), id("5"))
	// Just what is an ID.
	wantIdsOf(t, within("<!ATTLIST a id CDATA #IMPLIED>")+"<a id='1'/>")
	wantIdsOf(t, within("<!ATTLIST a id CDATA 'd'>")+"<a/>")
	wantIdsOf(t, within("<!ATTLIST a id CDATA 'd' j ID #IMPLIED>")+"<a j='1'/>", attr("", "j", "", "1"))
	// By the names as they stand there, whatever their spaces.
	h = within("<!ATTLIST p:b id ID #IMPLIED><!ATTLIST a p:id ID #IMPLIED><!ATTLIST q:b q:id ID #IMPLIED>")
	wantIdsOf(t, h+"<a xmlns:p='u' xmlns:q='u' xmlns='u'><p:b id='1'/><q:b id='2'/><b id='3'/></a>", id("1"))
	wantIdsOf(t, h+"<a xmlns:p='u' id='1' p:id='2'/>", attr("p", "id", "u", "2"))
	wantIdsOf(t, h+"<a xmlns:q='u' id='1' q:id='2'/>")
	wantIdsOf(t, h+"<a xmlns:q='v'><q:b id='1' q:id='2'/><q:b xmlns:q='w' q:id='3'/><b q:id='4'/></a>", attr("q", "id", "v", "2"), attr("q", "id", "w", "3"))
	// A Decl is no Attr.
	wantIdsOf(t, within("<!ATTLIST a xmlns ID #IMPLIED xmlns:p ID #IMPLIED>")+"<a xmlns='u' xmlns:p='u'/>")
}

func TestIdsOfAnyNodeAndHead(t *testing.T) {
	k := attr("", "k", "", "v")
	h := head(idDef("a", "k"))
	n := withAttrs(el("a"), k)
	for _, x := range []impl.Node{n, doc(n), doc(note("n"), n, told("t", "")), el("b", el("b"), n), el("b", txt("x"), el("b", n))} {
		wantIds(t, x, h, k)
		wantIds(t, x, impl.Head{})
		wantIds(t, x, impl.Head{Defs: h.Defs}, k)
		wantIds(t, x, impl.Head{Name: "b", Ents: []impl.Ent{ent("lt", "")}, Defs: h.Defs}, k)
		wantIds(t, x, head(implied("a", "k")))
		// The first Def of both counts.
		wantIds(t, x, head(valDef("a", "k", "v"), idDef("a", "k")))
		wantIds(t, x, head(idDef("a", "k"), valDef("a", "k", "v")), k)
		wantIds(t, x, head(implied("b", "k"), idDef("b", "k"), idDef("a", "k"), idDef("a", "k")), k)
		wantIds(t, x, head(impl.Def{El: "a", At: "k", Id: true, Has: true, Val: "w"}), k)
	}
	for _, x := range []impl.Node{{}, doc(), el("a"), txt("x"), note("n"), told("a", "k")} {
		wantIds(t, x, h)
		wantIds(t, x, impl.Head{})
	}
	// What is no element has none.
	for _, kind := range append([]int{impl.NdDoc, impl.NdText, impl.NdNote, impl.NdTold}, strangeKinds...) {
		wrong := n
		wrong.Kind = kind
		wantIds(t, wrong, h)
		wantIds(t, el("b", wrong, n, wrong), h, k)
	}
	// All that an Attr has, though it be not right; and as often as it stands there.
	wantIds(t, withAttrs(inSpace("p", "b", "u"), attr("q", "k", "\xff", "\x00"), attr("q", "k", "", ""), k, attr("q", "j", "", "")), head(idDef("p:b", "q:k")), attr("q", "k", "\xff", "\x00"), attr("q", "k", "", ""))
	// A name that is none is no other one's.
	wantIds(t, withAttrs(el("p:b"), k), head(idDef("p:b", "k")))
	wantIds(t, withAttrs(el("b"), attr("", "p:k", "", "")), head(idDef("b", "p:k")))
	wantIds(t, withAttrs(inSpace("p", "", "u"), k), head(idDef("p:", "k"), idDef(":", "k"), idDef("p", "k")))
	wantIds(t, withAttrs(inSpace("xml", "b", ""), attr("xml", "k", "", "")), head(idDef("xml:b", "xml:k")), attr("xml", "k", "", ""))
	z := withAttrs(el("z"), k)
	for _, x := range manyNodes() {
		wantIds(t, x, head(idDef("z", "k")))
		wantIds(t, el("b", x, z, x), head(idDef("z", "k")), k)
		wantIds(t, x, h, plainIds(x, h)...)
	}
}

func TestIdsOfLeavesItsTreeAndHeadAlone(t *testing.T) {
	id := func() impl.Head {
		room := []impl.Def{idDef("out", "ka"), idDef("in", "kb"), idDef("in", "kc"), idDef("k", "k")}
		return impl.Head{Name: "a", Ents: entsOf("e", "f", "behind")[:2], Defs: room[:2]}
	}
	for _, n := range append(append(manyNodes(), oneOfEach()...), doc(roomy()...), el("a", roomy()...), txt("x")) {
		before, h := bare(n), id()
		got := impl.IdsOf(n, h)
		if !alike([]impl.Node{n}, []impl.Node{before}) {
			t.Errorf("the node was %+v, and is %+v now", before, n)
		}
		if !sameHead(h, id()) || !slices.Equal(h.Ents[:3], entsOf("e", "f", "behind")) || !slices.Equal(h.Defs[:4], id().Defs[:4]) {
			t.Errorf("the head is %+v now", h)
		}
		wantApart(t, slices.Concat(memoryOf(got), nodeMemory(n), headMemory(h)))
	}
	n := doc(roomy()...)
	want := []impl.Attr{attr("", "ka", "", ""), attr("", "kb", "", "")}
	got := impl.IdsOf(n, id())
	if !slices.Equal(got, want) {
		t.Errorf("IdsOf = %+v; want %+v", got, want)
	}
	for i := range got[:cap(got)] {
		got[:cap(got)][i] = attr("written", "w", "w", "w")
	}
	wantIds(t, n, id(), want...)
	if !alike(n.Kids, roomy()) || !slices.Equal(n.Kids[2].Attrs[:3], plainAttrs(3)) || !slices.Equal(n.Kids[2].Kids[1].Attrs[:4], plainAttrs(4)) {
		t.Error("what is written into the answer is seen in the tree")
	}
	got = impl.IdsOf(n, id())
	spoil(n.Kids)
	if !slices.Equal(got, want) {
		t.Errorf("the answer hangs on what is written later: %+v", got)
	}
}
