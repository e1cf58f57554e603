package tests

import (
	"fmt"
	"math"
	"regexp"
	"slices"
	"strings"
	"testing"

	"loop.example/g00484/impl"
)

var markEnts = []impl.Ent{{Name: "e", Val: "of e"}, {Name: "none"}, {Name: "end", Val: "]]>"}, {Name: "all", Val: "<b c='&lt;'>\"\t\n\r"}}

func open(name string, raws ...impl.Raw) impl.Mark {
	return impl.Mark{Kind: impl.MkOpen, Name: name, Raws: raws}
}

func openEmpty(name string, raws ...impl.Raw) impl.Mark {
	return impl.Mark{Kind: impl.MkOpen, Name: name, Raws: raws, Empty: true}
}

func raw(name string, val string) impl.Raw {
	return impl.Raw{Name: name, Val: val}
}

func closing(name string) impl.Mark {
	return impl.Mark{Kind: impl.MkClose, Name: name}
}

func markText(s string) impl.Mark {
	return impl.Mark{Kind: impl.MkText, Text: s}
}

func markNote(s string) impl.Mark {
	return impl.Mark{Kind: impl.MkNote, Text: s}
}

func markTold(name string, s string) impl.Mark {
	return impl.Mark{Kind: impl.MkTold, Name: name, Text: s}
}

func sameMark(a impl.Mark, b impl.Mark) bool {
	return a.Kind == b.Kind && a.Name == b.Name && slices.Equal(a.Raws, b.Raws) && a.Empty == b.Empty && a.Text == b.Text
}

func wantMarkAt(t *testing.T, s string, at int, l []impl.Ent, want impl.Mark, next int) {
	t.Helper()
	if got, gotNext, ok := impl.MarkAt(s, at, l); !sameMark(got, want) || gotNext != next || !ok {
		t.Errorf("MarkAt(%q, %d, %q) = %+v, %d, %v; want %+v, %d, true", s, at, l, got, gotNext, ok, want, next)
	}
}

func wantNoMarkAt(t *testing.T, s string, at int, l []impl.Ent) {
	t.Helper()
	if got, next, ok := impl.MarkAt(s, at, l); !sameMark(got, impl.Mark{}) || next != 0 || ok {
		t.Errorf("MarkAt(%q, %d, %q) = %+v, %d, %v; want the zero one, 0, false", s, at, l, got, next, ok)
	}
}

// What may stand ahead of a mark and is not to count.
var aheadOfMarks = []string{"", "x", " ", "\u00e9", "<", "<!--", "<![CDATA[", "<a b='", "&", "]]>", "\xff", "\xc3", "\x00"}

// What may stand behind one. A text goes on up to the next `<`, so there only what begins with that may.
var (
	behindTexts = []string{"", "<", "<a>", "<]]>", "<&", "<\xff"}
	behindMarks = append(slices.Clone(behindTexts), "x", " ", ">", "/>", "-->", "?>", "]]>", "&", "&lt;", "'", "\"", "=", "\xff", "\xbf", "\x00")
)

// wantMark asks for what s is as a whole, wherever it stands.
func wantMark(t *testing.T, s string, l []impl.Ent, want impl.Mark) {
	t.Helper()
	behind := behindMarks
	if !strings.HasPrefix(s, "<") {
		behind = behindTexts
	}
	for _, a := range aheadOfMarks {
		for _, b := range behind {
			wantMarkAt(t, a+s+b, len(a), l, want, len(a)+len(s))
		}
	}
}

// wantNoMark asks of s, wherever it stands, that nothing is read there. s is to be such that nothing behind it could mend it.
func wantNoMark(t *testing.T, s string, l []impl.Ent) {
	t.Helper()
	for _, a := range aheadOfMarks {
		wantNoMarkAt(t, a+s, len(a), l)
	}
	if s != "" {
		wantNoMarkAt(t, s+"<a>", 0, l)
	}
}

func TestMarkNumbers(t *testing.T) {
	if impl.MkOpen != 1 || impl.MkClose != 2 || impl.MkText != 3 || impl.MkNote != 4 || impl.MkTold != 5 {
		t.Error("the numbers of marks")
	}
}

func TestMarksThatOpen(t *testing.T) {
	wantMark(t, "<a>", nil, open("a"))
	wantMark(t, "<p:a>", nil, open("p:a"))
	wantMark(t, "<a/>", nil, openEmpty("a"))
	wantMark(t, "<p:a/>", nil, openEmpty("p:a"))
	wantMark(t, "<a b=\"c\">", nil, open("a", raw("b", "c")))
	wantMark(t, "<a b='c'>", nil, open("a", raw("b", "c")))
	wantMark(t, "<a p:b='c'/>", nil, openEmpty("a", raw("p:b", "c")))
	wantMark(t, "<a b='' c=\"\">", nil, open("a", raw("b", ""), raw("c", "")))
	wantMark(t, "<a b='1' c=\"2\" d='3'>", nil, open("a", raw("b", "1"), raw("c", "2"), raw("d", "3")))
	// As they stand there, not in another order.
	wantMark(t, "<a z='1' b='2' q:c='3'/>", nil, openEmpty("a", raw("z", "1"), raw("b", "2"), raw("q:c", "3")))
	wantMark(t, "<a xmlns='u' xmlns:p='v'>", nil, open("a", raw("xmlns", "u"), raw("xmlns:p", "v")))
	wantMark(t, "<a b='1' b='2' b='1'>", nil, open("a", raw("b", "1"), raw("b", "2"), raw("b", "1")))
	wantMark(t, "<\u00e9:\u3042 \U00010000='\u00e9'/>", nil, openEmpty("\u00e9:\u3042", raw("\U00010000", "\u00e9")))
}

func TestBlanksInMarksThatOpen(t *testing.T) {
	for _, some := range []string{" ", "\t", "\n", "\r", "\r\n", " \t\n\r ", strings.Repeat(" ", 2000)} {
		wantMark(t, "<a"+some+">", nil, open("a"))
		wantMark(t, "<a"+some+"/>", nil, openEmpty("a"))
		wantMark(t, "<a"+some+"b='c'>", nil, open("a", raw("b", "c")))
		wantMark(t, "<a b"+some+"='c'>", nil, open("a", raw("b", "c")))
		wantMark(t, "<a b="+some+"'c'>", nil, open("a", raw("b", "c")))
		wantMark(t, "<a b='c'"+some+">", nil, open("a", raw("b", "c")))
		wantMark(t, "<a b='c'"+some+"/>", nil, openEmpty("a", raw("b", "c")))
		wantMark(t, "<a b='c'"+some+"d='e'>", nil, open("a", raw("b", "c"), raw("d", "e")))
		all := "<a" + some + "b" + some + "=" + some + "'c'" + some + "d" + some + "=" + some + "\"e\"" + some
		wantMark(t, all+">", nil, open("a", raw("b", "c"), raw("d", "e")))
		wantMark(t, all+"/>", nil, openEmpty("a", raw("b", "c"), raw("d", "e")))
		for _, s := range []string{"<%sa>", "<a/%s>", "<a %s/%s>", "<a b='c'/%s>", "<a:%sb>", "<a%s:b>", "<a b:%sc='d'>", "<a b%sb='c'>", "<a b='c'%s'd'>", "<a b=%sc>", "<a =%s'c'>"} {
			wantNoMark(t, strings.ReplaceAll(s, "%s", some), nil)
		}
	}
	// Between two of them one at least stands.
	for _, s := range []string{"<a b='1'c='2'>", "<a b=\"1\"c=\"2\">", "<a b='1'c=\"2\">", "<a b='1'c>", "<ab='1'>", "<a'b'>", "<a=''>"} {
		wantNoMark(t, s, nil)
	}
	// What is a blank elsewhere is none here.
	for _, some := range []string{"\u00a0", "\u0085", "\u2028", "\u3000", "\x0b", "\x0c", "\x00"} {
		for _, s := range []string{"<a%s>", "<a%sb='c'>", "<a b%s='c'>", "<a b=%s'c'>", "<a b='c'%s>", "<a b='c'%sd='e'>", "<a b='c' %sd='e'>", "</a%s>", "<?t%s?>", "<?t%sx?>"} {
			wantNoMark(t, strings.ReplaceAll(s, "%s", some), nil)
		}
	}
}

func TestMarksThatDoNotOpen(t *testing.T) {
	for _, s := range []string{
		"<", "< a", "< a>", "<>", "</>", "<//a>", "<a//>", "<a/b>", "<a/ >", "<a / >", "<a/\n>", "<a", "<a ", "<a/", "<a /", "<a b", "<a b>", "<a b/>", "<a b >",
		"<a b=>", "<a b=/>", "<a b=c>", "<a b=c/>", "<a b==''>", "<a b='>", "<a b=\">", "<a b='\">", "<a b=\"'>", "<a b=`c`>", "<a b=c'>", "<a b=c\">", "<a b=c''>", "<a b= c'/>", "<a b='c' d=e'>", "<a b=&quot;c&quot;>",
		"<a ='c'>", "<a 'c'>", "<a b 'c'>", "<a b='c''d'>", "<a b='c'=''>", "<a b='c'/d='e'>", "<a b='c',d='e'>", "<a,b='c'>", "<a b='c'?>", "<a?>",
		"<a <b>", "<a<b>", "<&a>", "<a&lt;>", "<a &e;>", "<a &e;='c'>", "<'a'>", "<=a>", "<]]>", "<a]>", "<a b='c'!>",
		"<a:b:c>", "<:a>", "<a:>", "<:>", "<-a>", "<1>", "<.a>", "<a b:c:d='e'>", "<a :b='c'>", "<a b:='c'>", "<a -b='c'>", "<a 1='c'>", "<a 9b='c'>",
	} {
		wantNoMark(t, s, markEnts)
	}
}

func TestNamesOfMarks(t *testing.T) {
	forms := map[string]func(string) impl.Mark{
		"<%s>":           func(s string) impl.Mark { return open(s) },
		"<%s />":         func(s string) impl.Mark { return openEmpty(s) },
		"<%s b='c'>":     func(s string) impl.Mark { return open(s, raw("b", "c")) },
		"<a %s='c'/>":    func(s string) impl.Mark { return openEmpty("a", raw(s, "c")) },
		"<a b='' %s=''>": func(s string) impl.Mark { return open("a", raw("b", ""), raw(s, "")) },
		"</%s>":          closing,
		"</%s\n>":        closing,
		"<?%s?>":         func(s string) impl.Mark { return markTold(s, "") },
		"<?%s x?>":       func(s string) impl.Mark { return markTold(s, "x") },
	}
	for form, want := range forms {
		for _, s := range plainNames {
			wantMarkAt(t, fmt.Sprintf(form, s), 0, nil, want(s), len(fmt.Sprintf(form, s)))
			for _, pre := range []string{"p", "xml", "sixteenletters_x", strings.Repeat("\u00e9", 8)} {
				x := fmt.Sprintf(form, pre+":"+s)
				wantMarkAt(t, x, 0, nil, want(pre+":"+s), len(x))
			}
		}
		for _, s := range noNames {
			// Of these the beginning is a name, and the rest is a mark's as well.
			if strings.ContainsAny(s, " \t\n\r/") {
				continue
			}
			wantNoMark(t, fmt.Sprintf(form, s), nil)
			wantNoMark(t, fmt.Sprintf(form, "p:"+s), nil)
			wantNoMark(t, fmt.Sprintf(form, s+":a"), nil)
		}
	}
}

func TestMarksThatClose(t *testing.T) {
	wantMark(t, "</a>", nil, closing("a"))
	wantMark(t, "</p:a>", nil, closing("p:a"))
	for _, some := range []string{" ", "\t", "\n", "\r", "\r\n", " \t\n\r "} {
		wantMark(t, "</a"+some+">", nil, closing("a"))
		for _, s := range []string{"</%sa>", "<%s/a>", "</a%s/>", "</a/%s>", "</a:%sb>", "</a%sb>", "</a%sb='c'>", "</a%s", "</%s>"} {
			wantNoMark(t, strings.ReplaceAll(s, "%s", some), nil)
		}
	}
	for _, s := range []string{"</", "</>", "</a", "</a/>", "</a b='c'>", "</a b>", "</a<", "</a<>", "<//>", "</a:b:c>", "</-a>", "</!a>", "</?a>", "</&e;>"} {
		wantNoMark(t, s, markEnts)
	}
}

func TestNotes(t *testing.T) {
	for _, s := range []string{
		"", "a", " ", "-", " a ", "a-b", "- -", "->", ">", "->a", "<", "<a>", "<!--", "&", "&lt;", "&nope;", "&e;", "]]>", "<![CDATA[", "?>", "\"'", "\t\n\r", "--", "a--b", "a-", "---", "a--b-", "-- >", "\u00e9\U00010000",
	} {
		wantMark(t, "<!--"+s+"-->", markEnts, markNote(s))
	}
	// The next end counts, however it goes on.
	wantMarkAt(t, "<!--a-->b-->", 0, nil, markNote("a"), 8)
	wantMarkAt(t, "<!---->-->", 0, nil, markNote(""), 7)
	wantMarkAt(t, "<!--a--->", 0, nil, markNote("a-"), 9)
	wantMarkAt(t, "<!----->", 0, nil, markNote("-"), 8)
	wantMarkAt(t, "<!--a\n-->\n-->", 0, nil, markNote("a\n"), 9)
	for _, s := range []string{"<!--", "<!-->", "<!--->", "<!--a", "<!--a-", "<!--a--", "<!--a->", "<!--a-- >", "<!--a--!>", "<!--a- ->", "<!--a--&gt;", "<!--a]]>", "<!--a?>", "<!-- >"} {
		wantNoMark(t, s, nil)
	}
	// What is taken for the end, had it begun ahead of the Text.
	wantMarkAt(t, "<!-->-->", 0, nil, markNote(">"), 8)
	wantMarkAt(t, "<!--->-->", 0, nil, markNote("->"), 9)
}

func TestCData(t *testing.T) {
	for _, s := range []string{
		"", "a", " ", "]", "]]", "]>", "]] >", ">", "<", "<a>", "</a>", "<a b='", "&", "&lt;", "&e;", "&nope;", "&#0;", "<!--a-->", "-->", "?>", "<![CDATA[", "<?t?>", "\"'", "\t\n\r", "]&]", "\u00e9\U00010000",
	} {
		wantMark(t, "<![CDATA["+s+"]]>", markEnts, markText(s))
	}
	wantMarkAt(t, "<![CDATA[a]]>b]]>", 0, nil, markText("a"), 13)
	wantMarkAt(t, "<![CDATA[]]>]]>", 0, nil, markText(""), 12)
	wantMarkAt(t, "<![CDATA[]]]>", 0, nil, markText("]"), 13)
	wantMarkAt(t, "<![CDATA[]]]]>", 0, nil, markText("]]"), 14)
	wantMarkAt(t, "<![CDATA[>]]>", 0, nil, markText(">"), 13)
	for _, s := range []string{
		"<![CDATA[", "<![CDATA[]", "<![CDATA[]]", "<![CDATA[]>", "<![CDATA[a", "<![CDATA[a]]", "<![CDATA[a]>", "<![CDATA[a]] >", "<![CDATA[a] ]>", "<![CDATA[a]]&gt;", "<![CDATA[a-->",
		"<![CDATA", "<![CDATA>", "<![CDATA a]]>", "<![CDATA]]>", "<![cdata[a]]>", "<![CData[a]]>", "<! [CDATA[a]]>", "<![ CDATA[a]]>", "<![CDATA [a]]>", "< ![CDATA[a]]>", "<[CDATA[a]]>", "<!CDATA[a]]>", "<![CDAT[a]]>", "<![[a]]>", "<![",
	} {
		wantNoMark(t, s, nil)
	}
}

func TestWhatIsTold(t *testing.T) {
	wantMark(t, "<?t?>", nil, markTold("t", ""))
	wantMark(t, "<?p:t?>", nil, markTold("p:t", ""))
	wantMark(t, "<?xml?>", nil, markTold("xml", ""))
	wantMark(t, "<?xml version='1.0'?>", nil, markTold("xml", "version='1.0'"))
	for _, s := range []string{"a", "a b", "a ", "a\t\n\r ", "?", "??", "? >", ">", "a?", "<a>", "<?t", "&", "&lt;", "&e;", "&nope;", "-->", "]]>", "\"'", "/", "=", "\u00e9\U00010000"} {
		for _, some := range []string{" ", "\t", "\n", "\r", "  ", "\r\n", " \t\n\r "} {
			wantMark(t, "<?t"+some+s+"?>", markEnts, markTold("t", s))
		}
	}
	for _, some := range []string{" ", "\t", "\n", "\r", "   ", " \t\n\r "} {
		wantMark(t, "<?t"+some+"?>", nil, markTold("t", ""))
		wantNoMark(t, "<?"+some+"t?>", nil)
		wantNoMark(t, "<?"+some+"?>", nil)
		wantNoMark(t, "<"+some+"?t?>", nil)
		wantNoMark(t, "<?t"+some+"?"+some+">", nil)
		wantNoMark(t, "<?t?"+some+">", nil)
	}
	wantMarkAt(t, "<?t?>a?>", 0, nil, markTold("t", ""), 5)
	wantMarkAt(t, "<?t a?>b?>", 0, nil, markTold("t", "a"), 7)
	wantMarkAt(t, "<?t ?>a?>", 0, nil, markTold("t", ""), 6)
	wantMarkAt(t, "<?t ??>", 0, nil, markTold("t", "?"), 7)
	for _, s := range []string{
		"<?", "<?>", "<??>", "<?t", "<?t?", "<?t>", "<?t ", "<?t ?", "<?t >", "<?t a", "<?t a?", "<?t a>", "<?t/>", "<?t/?>", "<?t??>", "<?t?a?>", "<?t=a?>", "<?t'a'?>", "<?t&a?>", "<?t<?>", "<?t\u00d7?>",
		"<?1?>", "<?-t?>", "<?:?>", "<?t:?>", "<?:t?>", "<?a:b:c?>", "<?a:b:c x?>", "<?!t?>", "<?&e;?>", "<?t !-->", "<?tgo",
	} {
		wantNoMark(t, s, markEnts)
	}
}

func TestTextsBetweenMarks(t *testing.T) {
	for _, s := range []string{"a", " ", "\t\n\r", "a b", ">", ">>", "/>", "-->", "?>", "]", "]]", "]>", "]] >", "] ]>", "!", "!--", "?t?>", "![CDATA[", "\"", "'", "b='c'", ";", "lt;", "#65;", "=", "\u00e9", "\U00010000", "\ufffd", "a-b", "CDATA[x]"} {
		wantMark(t, s, nil, markText(s))
		wantMark(t, s, markEnts, markText(s))
	}
	wantMarkAt(t, "a<", 0, nil, markText("a"), 1)
	wantMarkAt(t, "a<b", 0, nil, markText("a"), 1)
	wantMarkAt(t, "a]]<b]]>", 0, nil, markText("a]]"), 3)
	wantMarkAt(t, "a]]<>", 0, nil, markText("a]]"), 3)
	wantMarkAt(t, "ab<c", 1, nil, markText("b"), 2)
	wantMarkAt(t, "<a>b</a>", 3, nil, markText("b"), 4)
	wantMarkAt(t, "<a>b</a>", 2, nil, markText(">b"), 4)
	wantMarkAt(t, "<a>b</a>", 1, nil, markText("a>b"), 4)
	wantMarkAt(t, "a]]>b", 2, nil, markText("]>b"), 5)
	for _, s := range []string{"]]>", "a]]>", "]]>a", "a]]>b", "]]]>", "]]]]>", "a\n]]>", "&lt;]]>", "]]>&lt;", "&e;]]>", "x]]> ]]>"} {
		wantNoMark(t, s, markEnts)
	}
}

// refCases are texts, as they stand and as they are read, where markEnts stand for something.
var refCases = [][2]string{
	{"&lt;", "<"}, {"&gt;", ">"}, {"&amp;", "&"}, {"&apos;", "'"}, {"&quot;", "\""},
	{"&e;", "of e"}, {"&none;", ""}, {"&none;&none;", ""}, {"&end;", "]]>"}, {"&all;", "<b c='&lt;'>\"\t\n\r"}, {"a&e;b&e;c", "aof ebof ec"},
	{"&#65;", "A"}, {"&#x41;", "A"}, {"&#x1f600;", "\U0001f600"}, {"&#60;", "<"}, {"&#x3C;", "<"}, {"&#38;", "&"}, {"&#34;&#39;", "\"'"},
	{"&#9;", "\t"}, {"&#10;", "\n"}, {"&#13;", "\r"}, {"&#32;", " "}, {"&#xa;&#xD;&#x9;", "\n\r\t"},
	{"]]&gt;", "]]>"}, {"&#93;]>", "]]>"}, {"]&#93;>", "]]>"}, {"]]&#62;", "]]>"}, {"]]&none;>", "]]>"}, {"&amp;lt;", "&lt;"}, {"&#38;lt;", "&lt;"}, {"&amp;e;", "&e;"},
}

func TestWhatStandsForSomethingInMarks(t *testing.T) {
	for _, x := range refCases {
		wantMark(t, x[0], markEnts, markText(x[1]))
		wantMark(t, "a"+x[0]+"b", markEnts, markText("a"+x[1]+"b"))
		wantMark(t, "<a b='"+x[0]+"'>", markEnts, open("a", raw("b", x[1])))
		wantMark(t, "<a b=\""+x[0]+"\"/>", markEnts, openEmpty("a", raw("b", x[1])))
		wantMark(t, "<a b='x' c='"+x[0]+"y'>", markEnts, open("a", raw("b", "x"), raw("c", x[1]+"y")))
		// In these nothing stands for anything.
		wantMark(t, "<!--"+x[0]+"-->", markEnts, markNote(x[0]))
		wantMark(t, "<?t "+x[0]+"?>", markEnts, markTold("t", x[0]))
		wantMark(t, "<![CDATA["+x[0]+"]]>", markEnts, markText(x[0]))
	}
}

func TestWhatStandsForNothingInMarks(t *testing.T) {
	for _, s := range []string{
		"&", "&;", "& ", "&&", "&lt", "&LT;", "&nope;", "&E;", "&ee;", "&e", "&e ;", "& e;", "&p:e;", "&#;", "&#x;", "&#0;", "&#1;", "&#xD800;", "&#xFFFE;", "&#1114112;", "&#x110000;", "&#00000065;", "&#x0000041;", "&#X41;", "&#6_5;", "&#+65;", "&lt;&", "&amp;&x;",
	} {
		for _, x := range []string{s, "a" + s, "&e;" + s + "b", s + "&lt;"} {
			wantNoMark(t, x, markEnts)
			wantNoMark(t, "<a b='"+x+"'>", markEnts)
			wantNoMark(t, "<a b=\"c\" d=\""+x+"\"/>", markEnts)
			wantNoMark(t, "<a b='"+x+"' d='e'>", markEnts)
		}
	}
	// A `;` behind the end of the text or the Val does not mend it.
	wantNoMarkAt(t, "&lt<;", 0, nil)
	wantNoMarkAt(t, "<a b='&lt';>", 0, nil)
	wantNoMarkAt(t, "<a b='&lt' c=';'>", 0, nil)
	for _, e := range markEnts {
		wantNoMark(t, "&"+e.Name+";", nil)
		wantNoMark(t, "<a b='&"+e.Name+";'>", entsOf("other"))
	}
}

func TestVals(t *testing.T) {
	for s, want := range map[string]string{
		"":               "",
		"c":              "c",
		" ":              " ",
		"\t":             " ",
		"\n":             " ",
		"\r":             " ",
		"\r\n":           "  ",
		" \t\n\r c\n":    "     c ",
		"a\tb\nc\rd e":   "a b c d e",
		"a&#9;b":         "a\tb",
		"\n&#10;\n":      " \n ",
		"\r&#13;&#xD;\r": " \r\r ",
		"&all;\t":        "<b c='&lt;'>\"\t\n\r ",
		">":              ">",
		"/>":             "/>",
		"=":              "=",
		"]]>":            "]]>",
		"-->":            "-->",
		"?>":             "?>",
		"!--":            "!--",
		"&lt;":           "<",
		"\u00a0\u0085":   "\u00a0\u0085",
		"\u00e9\u3042":   "\u00e9\u3042",
		"\ufffd":         "\ufffd",
		"a;b":            "a;b",
	} {
		for _, quote := range []string{"'", "\""} {
			wantMark(t, "<a b="+quote+s+quote+">", markEnts, open("a", raw("b", want)))
			wantMark(t, "<a b = "+quote+s+quote+" c='d' />", markEnts, openEmpty("a", raw("b", want), raw("c", "d")))
		}
	}
	// Each may have the other one's quote.
	wantMark(t, "<a b='\"'>", nil, open("a", raw("b", "\"")))
	wantMark(t, "<a b=\"'\">", nil, open("a", raw("b", "'")))
	wantMark(t, "<a b=\"''\" c='\"\"'/>", nil, openEmpty("a", raw("b", "''"), raw("c", "\"\"")))
	wantMark(t, "<a b=\"' c='\">", nil, open("a", raw("b", "' c='")))
	wantMark(t, "<a b='\" c=\"'>", nil, open("a", raw("b", "\" c=\"")))
	for _, s := range []string{
		"<a b='<'>", "<a b=\"<\">", "<a b='c<'>", "<a b='<c'>", "<a b='<c>'/>", "<a b='1' c='<'>", "<a b='<' c='1'>", "<a b='&lt;<'>", "<a b='\n<\n'>",
		"<a b='c\">", "<a b=\"c'>", "<a b=''' >", "<a b=\"\"\">", "<a b='&apos;>",
	} {
		wantNoMark(t, s, markEnts)
	}
}

// Of marks that begin alike the first one counts, also if another one would go on.
func TestMarksThatBeginAlike(t *testing.T) {
	for _, s := range []string{
		"<", "<!", "<!-", "<!--", "<!->", "<!-a>", "<!-a-->", "<!- -a-->", "<!x", "<!x>", "<!x-->", "<!-->", "<!--->", "<!--x", "<!--x]]>",
		"<![", "<![CDATA", "<![CDATA-->", "<![CDATA]]>", "<![CDATA[", "<![CDATA[-->", "<![x[a]]>", "<![]]>", "<!DOCTYPE a>", "<!DOCTYPE a []>", "<!ENTITY a 'b'>", "<!>",
		"<?", "<?>", "<?a>", "<?a/>", "<?a b='c'>", "<?a b='c'/>", "<?-->", "<?--a-->", "</", "</>", "</a/>", "</a b='c'>", "</?a?>", "</!--a-->", "</![CDATA[a]]>",
		"< a", "< a>", "< !--a-->", "< ?a?>", "< /a>", "< ![CDATA[a]]>", "<<a>", "<<", "<>",
	} {
		wantNoMark(t, s, nil)
	}
	// What another mark is made of stands in each of these as it is.
	wantMark(t, "<!--<![CDATA[a]]>-->", nil, markNote("<![CDATA[a]]>"))
	wantMark(t, "<!--[CDATA[a]]>-->", nil, markNote("[CDATA[a]]>"))
	wantMark(t, "<![CDATA[<!--a-->]]>", nil, markText("<!--a-->"))
	wantMark(t, "<![CDATA[[CDATA[]]>", nil, markText("[CDATA["))
	wantMark(t, "<?t <!--a--> ?>", nil, markTold("t", "<!--a--> "))
	wantMark(t, "<?t </a>?>", nil, markTold("t", "</a>"))
	wantMark(t, "<!--?t?>-->", nil, markNote("?t?>"))
	wantMark(t, "<!--/a>-->", nil, markNote("/a>"))
}

// A text of each kind of mark, as it stands in one, and the mark.
var textForms = []struct {
	ahead  string
	behind string
	mark   func(string) impl.Mark
}{
	{"<!--", "-->", markNote},
	{"<?t ", "?>", func(s string) impl.Mark { return markTold("t", s) }},
	{"<![CDATA[", "]]>", markText},
	{"", "", markText},
	{"<a b='", "'>", func(s string) impl.Mark { return open("a", raw("b", s)) }},
	{"<a b=\"", "\"/>", func(s string) impl.Mark { return openEmpty("a", raw("b", s)) }},
	{"<a z='' b = '", "' c='d' />", func(s string) impl.Mark { return openEmpty("a", raw("z", ""), raw("b", s), raw("c", "d")) }},
}

func TestTextsOfMarksThatAreNotRight(t *testing.T) {
	for _, f := range textForms {
		for _, wrong := range noTexts {
			for _, s := range []string{wrong, "x" + wrong, wrong + "x", "x" + wrong + "y"} {
				wantNoMarkAt(t, f.ahead+s+f.behind, 0, nil)
				wantNoMarkAt(t, "<"+f.ahead+s+f.behind, 1, nil)
				wantNoMarkAt(t, f.ahead+s+f.behind+"<a>", 0, markEnts)
			}
		}
	}
}

func TestTextsOfMarksOfMaxText(t *testing.T) {
	for _, f := range textForms {
		for _, sign := range []string{"x", "\u00e9", "\u3042", "\U00010000", ";"} {
			just := strings.Repeat(sign, impl.MaxText/len(sign))
			s := f.ahead + just + f.behind
			wantMarkAt(t, s, 0, nil, f.mark(just), len(s))
			wantMarkAt(t, "<"+s+"<", 1, nil, f.mark(just), len(s)+1)
			wantNoMarkAt(t, f.ahead+just+"y"+f.behind, 0, nil)
			wantNoMarkAt(t, f.ahead+"y"+just+f.behind, 0, nil)
			wantNoMarkAt(t, f.ahead+just+just+f.behind, 0, nil)
		}
	}
	// Blanks ahead of it are not of the Text.
	just := strings.Repeat("x", impl.MaxText)
	s := "<?t" + strings.Repeat(" \n", 1000) + just + "?>"
	wantMarkAt(t, s, 0, nil, markTold("t", just), len(s))
	wantNoMarkAt(t, "<?t "+just+" ?>", 0, nil)
}

// A Val, and a text between marks, may be longer as they stand than as they are read, and the other way round.
func TestTextsOfMarksThatAreExpanded(t *testing.T) {
	long := []impl.Ent{{Name: "e", Val: strings.Repeat("v", impl.MaxText/2)}, {Name: "n"}}
	for _, f := range textForms[3:] {
		wantLong := func(s string, want string) {
			t.Helper()
			x := f.ahead + s + f.behind
			wantMarkAt(t, x, 0, long, f.mark(want), len(x))
		}
		wantLong("&e;&e;", strings.Repeat("v", impl.MaxText))
		wantNoMarkAt(t, f.ahead+"&e;&e;x"+f.behind, 0, long)
		wantNoMarkAt(t, f.ahead+"&e;&e;&e;"+f.behind, 0, long)
		wantLong(strings.Repeat("&lt;", 300), strings.Repeat("<", 300))
		// Just MaxDoc bytes, and one more.
		wantLong(strings.Repeat("&n;", impl.MaxDoc/3), "")
		wantNoMarkAt(t, f.ahead+strings.Repeat("&n;", impl.MaxDoc/3)+"x"+f.behind, 0, long)
		wantLong(strings.Repeat("&n;", 400)+strings.Repeat("x", 300), strings.Repeat("x", 300))
		wantNoMarkAt(t, f.ahead+strings.Repeat("&n;", 400)+strings.Repeat("x", 301)+f.behind, 0, long)
	}
	// Each Val has its own limit.
	s := "<a b='&e;&e;' c='&e;&e;'>"
	full := strings.Repeat("v", impl.MaxText)
	wantMarkAt(t, s, 0, long, open("a", raw("b", full), raw("c", full)), len(s))
}

// MarkAt itself has no limit: neither how many Raws, nor how long s is, nor where in it the mark stands.
func TestMarksInLongTexts(t *testing.T) {
	s := "<a"
	var raws []impl.Raw
	for i := range 1000 {
		name := fmt.Sprintf("p:b%d", i)
		s += fmt.Sprintf(" %s='%d'", name, i)
		raws = append(raws, raw(name, fmt.Sprint(i)))
	}
	wantMarkAt(t, s+">", 0, nil, open("a", raws...), len(s)+1)
	wantMarkAt(t, s+"/>", 0, nil, openEmpty("a", raws...), len(s)+2)
	ahead := strings.Repeat("<a>\xff", 5000)
	for _, x := range oneOfEachMark {
		wantMarkAt(t, ahead+x.s+"<"+ahead, len(ahead), markEnts, x.mark, len(ahead)+len(x.s))
	}
}

type writtenMark struct {
	s    string
	mark impl.Mark
}

// Marks of each kind, each of another form.
var oneOfEachMark = []writtenMark{
	{"<a>", open("a")},
	{"<p:a  b = \"1\"\tp:c='&lt;' >", open("p:a", raw("b", "1"), raw("p:c", "<"))},
	{"<a/>", openEmpty("a")},
	{"<a b='&e;\n\"' />", openEmpty("a", raw("b", "of e \""))},
	{"</p:a >", closing("p:a")},
	{"<!--a-b-->", markNote("a-b")},
	{"<!---->", markNote("")},
	{"<?t?>", markTold("t", "")},
	{"<?t \n go ?>", markTold("t", "go ")},
	{"<![CDATA[<a>&]]]>", markText("<a>&]")},
	{"<![CDATA[]]>", markText("")},
	{"x &e;&#65;>\u00e9", markText("x of eA>\u00e9")},
	{"&none;", markText("")},
}

func TestMarksThatAreCutOff(t *testing.T) {
	for _, x := range oneOfEachMark {
		wantMark(t, x.s, markEnts, x.mark)
		for i := range len(x.s) {
			if strings.HasPrefix(x.s, "<") {
				wantNoMark(t, x.s[:i], markEnts)
				continue
			}
			// A text ends anywhere, but not within what stands for something, nor within a sign.
			want, ok := plainExpand(x.s[:i], markEnts)
			if i == 0 || !ok {
				wantNoMark(t, x.s[:i], markEnts)
			} else {
				wantMark(t, x.s[:i], markEnts, markText(want))
			}
		}
	}
}

// One byte in each place of a mark that is no sign, or the beginning of none.
func TestBrokenBytesInMarks(t *testing.T) {
	for _, x := range oneOfEachMark {
		for _, wrong := range noTexts {
			for i := 1; i < len(x.s); i++ {
				wantNoMarkAt(t, x.s[:i]+wrong+x.s[i:], 0, markEnts)
			}
			wantNoMarkAt(t, wrong+x.s, 0, markEnts)
			wantMarkAt(t, wrong+x.s, len(wrong), markEnts, x.mark, len(wrong)+len(x.s))
		}
	}
}

func TestMarksAtWrongPlaces(t *testing.T) {
	for _, s := range []string{"", "x", "<a>", "<!--a-->", "\u00e9", "x<a>", "<a"} {
		for _, at := range []int{-1, -2, -len(s) - 1, len(s), len(s) + 1, len(s) + 2, 1000, math.MinInt, math.MaxInt, math.MinInt32, math.MaxInt32, 1 << 32, -1 << 32} {
			if at != -len(s) {
				wantNoMarkAt(t, s, at, nil)
				wantNoMarkAt(t, s, at, markEnts)
			}
		}
	}
	wantMarkAt(t, "<a>", 0, nil, open("a"), 3)
	wantMarkAt(t, "x<a>", 1, nil, open("a"), 4)
	// Within a sign nothing stands.
	for _, s := range []string{"\u00e9", "\u3042", "\U00010000"} {
		wantMarkAt(t, s+"<a>", 0, nil, markText(s), len(s))
		for at := 1; at < len(s); at++ {
			wantNoMarkAt(t, s, at, nil)
			wantNoMarkAt(t, s+"x<a>", at, nil)
		}
		wantMarkAt(t, s+"<a>", len(s), nil, open("a"), len(s)+3)
	}
}

func TestMarksByAListThatIsNotRight(t *testing.T) {
	for _, l := range [][]impl.Ent{
		{{Name: ""}}, {{Name: "lt", Val: "<"}}, {{Name: "quot"}}, {{Name: "p:q"}}, {{Name: "1"}}, {{Name: "e\xff"}},
		{{Name: "e", Val: "\x00"}}, {{Name: "e", Val: "\xff"}}, {{Name: "e", Val: strings.Repeat("x", impl.MaxText+1)}},
		entsOf("e", "e"), entsOf("e", "none", "end", "all", "more"), {{Name: "e"}, {}}, append(slices.Clone(markEnts[:3]), impl.Ent{Name: "amp"}),
	} {
		for _, x := range oneOfEachMark {
			wantNoMarkAt(t, x.s, 0, l)
			wantNoMarkAt(t, "x"+x.s+"<a>", 1, l)
		}
		wantNoMarkAt(t, "x", 0, l)
	}
	just := entsOf("a", "b", "c", "sixteenletters_x")
	wantMark(t, "&a;&sixteenletters_x;", just, markText("of aof sixteenletters_x"))
}

// allOf are the texts of up to length pieces.
func allOf(pieces []string, length int) []string {
	all, last := []string{""}, []string{""}
	for range length {
		var more []string
		for _, s := range last {
			for _, p := range pieces {
				more = append(more, s+p)
			}
		}
		all, last = append(all, more...), more
	}
	return all
}

const (
	blankForm = "[\t\n\r ]"
	partForm  = "[A-Za-z_\u00e9][-.0-9A-Za-z_\u00e9]*"
	nameForm  = "(" + partForm + "(?::" + partForm + ")?)"
	valForm   = `(?:"([^"<]*)"|'([^'<]*)')`
	oneRaw    = blankForm + "+" + nameForm + blankForm + "*=" + blankForm + "*" + valForm
)

var (
	noteMark  = regexp.MustCompile(`^<!--((?s:.*?))-->`)
	toldMark  = regexp.MustCompile(`^<\?` + nameForm + `(?:` + blankForm + `+((?s:.*?)))?\?>`)
	closeMark = regexp.MustCompile(`^</` + nameForm + blankForm + `*>`)
	cdataMark = regexp.MustCompile(`^<!\[CDATA\[((?s:.*?))\]\]>`)
	openMark  = regexp.MustCompile(`^<` + nameForm + `((?:` + oneRaw + `)*)` + blankForm + `*(/?)>`)
	rawInMark = regexp.MustCompile(oneRaw)
	textMark  = regexp.MustCompile(`^[^<]+`)
	oneBlank  = regexp.MustCompile(blankForm)
)

// plainMark is another way to the same, for names of few signs, none of them too long.
func plainMark(s string, l []impl.Ent) (impl.Mark, int, bool) {
	var m impl.Mark
	var found []string
	ok := true
	switch {
	case strings.HasPrefix(s, "<!--"):
		if found = noteMark.FindStringSubmatch(s); found != nil {
			m = markNote(found[1])
		}
	case strings.HasPrefix(s, "<?"):
		if found = toldMark.FindStringSubmatch(s); found != nil {
			m = markTold(found[1], found[2])
		}
	case strings.HasPrefix(s, "</"):
		if found = closeMark.FindStringSubmatch(s); found != nil {
			m = closing(found[1])
		}
	case strings.HasPrefix(s, "<![CDATA["):
		if found = cdataMark.FindStringSubmatch(s); found != nil {
			m = markText(found[1])
		}
	case strings.HasPrefix(s, "<"):
		if found = openMark.FindStringSubmatch(s); found != nil {
			m = open(found[1])
			m.Raws, ok = plainRaws(found[2], l)
			m.Empty = strings.HasSuffix(found[0], "/>")
		}
	default:
		if found = textMark.FindStringSubmatch(s); found != nil {
			m = markText("")
			m.Text, ok = plainExpand(found[0], l)
			ok = ok && impl.TextOk(found[0]) && !strings.Contains(found[0], "]]>")
		}
	}
	if found == nil || !ok || !impl.TextOk(m.Text) {
		return impl.Mark{}, 0, false
	}
	return m, len(found[0]), true
}

func plainRaws(s string, l []impl.Ent) ([]impl.Raw, bool) {
	var raws []impl.Raw
	for _, found := range rawInMark.FindAllStringSubmatch(s, -1) {
		stands := oneBlank.ReplaceAllString(found[2]+found[3], " ")
		val, ok := plainExpand(stands, l)
		if !ok || !impl.TextOk(stands) {
			return nil, false
		}
		raws = append(raws, raw(found[1], val))
	}
	return raws, true
}

func checkMark(t *testing.T, s string, l []impl.Ent) bool {
	t.Helper()
	got, next, ok := impl.MarkAt(s, 0, l)
	want, wantNext, wantOk := plainMark(s, l)
	if !sameMark(got, want) || next != wantNext || ok != wantOk {
		t.Fatalf("MarkAt(%q) = %+v, %d, %v; want %+v, %d, %v", s, got, next, ok, want, wantNext, wantOk)
	}
	return ok
}

func TestMarksAnotherWay(t *testing.T) {
	read := 0
	for _, s := range allOf([]string{"<", "<!", "--", "-", ">", "<![CDATA[", "]", "]]>", "<?", "?>", "?", "</", "/", "a", "a:b", " ", "\n", "&lt;", "&", "\u00e9", "\xff"}, 4) {
		if checkMark(t, s, nil) {
			read++
		}
	}
	for _, ahead := range []string{"<a", "<a b=", "<a b='"} {
		for _, s := range allOf([]string{" ", "b", "=", "'", "\"", "/", ">", "&e;", "<", "\t"}, 5) {
			if checkMark(t, ahead+s, markEnts) {
				read++
			}
		}
	}
	for _, ahead := range []string{"<!--", "<?t", "<![CDATA[", "</a"} {
		for _, s := range allOf([]string{"-", "?", "]", ">", " ", "\r", "a", "<"}, 5) {
			if checkMark(t, ahead+s, nil) {
				read++
			}
		}
	}
	for _, s := range allOf([]string{" b='1'", " p:c = \"&e;\"", "\nd='\n'", "e='2'", " f", " /", "/", ">", " >", "''"}, 5) {
		if checkMark(t, "<a"+s, markEnts) {
			read++
		}
	}
	if read < 30000 {
		t.Errorf("only %d marks were read", read)
	}
}

// goesOn asks of the mark at a place that it goes on behind it: within s, and hanging on nothing ahead of it or behind.
func goesOn(t *testing.T, s string, at int, l []impl.Ent) {
	t.Helper()
	m, next, ok := impl.MarkAt(s, at, l)
	if !ok {
		if next != 0 || !sameMark(m, impl.Mark{}) {
			t.Fatalf("MarkAt(%q, %d) = %+v, %d beside a false", s, at, m, next)
		}
		return
	}
	if at < 0 || next <= at || next > len(s) {
		t.Fatalf("MarkAt(%q, %d) goes on at %d", s, at, next)
	}
	wantMarkAt(t, s[at:next], 0, l, m, next-at)
	wantMarkAt(t, s[:next], at, l, m, next)
	wantMarkAt(t, s[at:], 0, l, m, next-at)
	wantMarkAt(t, s[:next]+"<\xff", at, l, m, next)
}

func TestBehindAMarkItGoesOn(t *testing.T) {
	for _, first := range oneOfEachMark {
		for _, second := range oneOfEachMark {
			for _, third := range oneOfEachMark {
				wantMarks(t, first, second, third)
			}
		}
	}
	wantMarks(t, oneOfEachMark...)
	whole := ""
	for _, x := range oneOfEachMark {
		whole += x.s
	}
	for at := -1; at <= len(whole)+1; at++ {
		goesOn(t, whole, at, markEnts)
	}
	for _, s := range allOf([]string{"<a", "<!--", "-->", "<![CDATA[", "]]>", "<?t", "?>", "</a", ">", "x", " ", "&e;", "\u00e9"}, 4) {
		for at := -1; at <= min(2, len(s)+1); at++ {
			goesOn(t, s, at, markEnts[:1])
		}
	}
}

// wantMarks asks for these one behind the other; texts beside each other, with no mark between, are read as one.
func wantMarks(t *testing.T, l ...writtenMark) {
	t.Helper()
	whole := ""
	for _, x := range l {
		whole += x.s
	}
	at := 0
	for i := 0; i < len(l); i++ {
		stands, want := l[i].s, l[i].mark
		for !strings.HasPrefix(stands, "<") && i+1 < len(l) && !strings.HasPrefix(l[i+1].s, "<") {
			i++
			stands += l[i].s
			want.Text += l[i].mark.Text
		}
		wantMarkAt(t, whole, at, markEnts, want, at+len(stands))
		at += len(stands)
	}
	wantNoMarkAt(t, whole, at, markEnts)
}

func TestMarksOfAnyBytes(t *testing.T) {
	for a := range 256 {
		for b := range 256 {
			s := string([]byte{byte(a), byte(b)})
			for at := -1; at <= 3; at++ {
				goesOn(t, s, at, nil)
			}
			for _, x := range []string{"<" + s, "<a" + s + ">", "<a b=" + s + ">", "<!" + s + "-->", "<?t" + s + "?>", "</a" + s + ">", "&" + s + ";"} {
				goesOn(t, x, 0, nil)
			}
		}
	}
}

func TestMarksShareNothing(t *testing.T) {
	room := append(slices.Clone(markEnts[:2]), impl.Ent{Name: "behind", Val: "b"}, impl.Ent{Name: "behind", Val: "b"})
	before := slices.Clone(room)
	l := room[:2]
	s := "<a b='&e;' c='1' d=\"&none;\">"
	want := open("a", raw("b", "of e"), raw("c", "1"), raw("d", ""))
	first, _, _ := impl.MarkAt(s, 0, l)
	second, _, _ := impl.MarkAt(s, 0, l)
	wantNoMarkAt(t, "&behind;", 0, l)
	wantNoMarkAt(t, "<a b='&behind;'>", 0, l)
	wantNoMarkAt(t, s, 0, room)
	if !slices.Equal(room, before) {
		t.Errorf("the list is %q now", room)
	}
	for i := range room {
		room[i] = impl.Ent{Name: "written", Val: "w"}
	}
	if !sameMark(first, want) || !sameMark(second, want) {
		t.Errorf("what was read hangs on the list: %+v, %+v", first, second)
	}
	for i := range first.Raws[:cap(first.Raws)] {
		first.Raws[:cap(first.Raws)][i] = raw("written", "w")
	}
	if !sameMark(second, want) {
		t.Errorf("two answers share memory: %+v", second)
	}
	wantMarkAt(t, s, 0, before[:2], want, len(s))
	// What was refused leaves nothing behind.
	wantNoMarkAt(t, "<a b='&e;' c='&nope;'>", 0, before[:2])
	wantMarkAt(t, s, 0, before[:2], want, len(s))
}

func wantBlanks(t *testing.T, s string, at int, want int) {
	t.Helper()
	if got := impl.Blanks(s, at); got != want {
		t.Errorf("Blanks(%q, %d) = %d, want %d", s, at, got, want)
	}
}

func TestBlanks(t *testing.T) {
	wantBlanks(t, " ", 0, 1)
	wantBlanks(t, "   ", 0, 3)
	wantBlanks(t, "   ", 1, 3)
	wantBlanks(t, "   ", 2, 3)
	wantBlanks(t, "\t\n\r a", 0, 4)
	wantBlanks(t, "a \n b", 1, 4)
	wantBlanks(t, "a \n b", 2, 4)
	wantBlanks(t, "a b  c", 1, 2)
	wantBlanks(t, "\u00e9 \u00e9", 2, 3)
	wantBlanks(t, " \xff ", 0, 1)
	wantBlanks(t, "\xff \xff", 1, 2)
	wantBlanks(t, strings.Repeat(" \n", 5000)+"a", 0, 10000)
	for _, s := range []string{"a", "a ", "\u00a0 ", "\u0085", "\u2028", "\u3000", "\x0b ", "\x0c", "\x00 ", "\xff ", "\xa0 ", "\u00e9 ", "<", "&#32;"} {
		wantBlanks(t, s, 0, 0)
		wantBlanks(t, " "+s, 0, 1)
		wantBlanks(t, " "+s, 1, 1)
	}
	for b := range 256 {
		want := 0
		if strings.IndexByte("\t\n\r ", byte(b)) >= 0 {
			want = 1
		}
		wantBlanks(t, string([]byte{byte(b)}), 0, want)
		wantBlanks(t, string([]byte{'a', byte(b), 'a'}), 1, 1+want)
	}
}

func TestBlanksWhereNoneStand(t *testing.T) {
	for _, s := range []string{"", " ", "a", "a ", "   ", "\u00e9"} {
		wantBlanks(t, s, len(s), len(s))
		for _, at := range []int{-1, -2, -3, -1000, math.MinInt, math.MinInt32, -1 << 32, len(s) + 1, len(s) + 2, 1000, math.MaxInt, math.MaxInt32, 1 << 32} {
			wantBlanks(t, s, at, at)
		}
	}
	wantBlanks(t, "\u00e9 ", 1, 1)
	wantBlanks(t, "\u3042 ", 1, 1)
	wantBlanks(t, "\u3042 ", 2, 2)
}
