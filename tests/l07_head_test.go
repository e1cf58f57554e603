package tests

import (
	"fmt"
	"math"
	"regexp"
	"slices"
	"strings"
	"testing"

	"loop.example/g00484/impl"
)

func ent(name string, val string) impl.Ent {
	return impl.Ent{Name: name, Val: val}
}

// implied is a Def that has no value.
func implied(el string, at string) impl.Def {
	return impl.Def{El: el, At: at}
}

func idDef(el string, at string) impl.Def {
	return impl.Def{El: el, At: at, Id: true}
}

func valDef(el string, at string, val string) impl.Def {
	return impl.Def{El: el, At: at, Has: true, Val: val}
}

// head is one of the name a, of Ents and Defs in the order in which they are told.
func head(of ...any) impl.Head {
	h := impl.Head{Name: "a"}
	for _, x := range of {
		switch x := x.(type) {
		case impl.Ent:
			h.Ents = append(h.Ents, x)
		case impl.Def:
			h.Defs = append(h.Defs, x)
		}
	}
	return h
}

func sameHead(a impl.Head, b impl.Head) bool {
	return a.Name == b.Name && slices.Equal(a.Ents, b.Ents) && slices.Equal(a.Defs, b.Defs)
}

func wantHeadAt(t *testing.T, s string, at int, want impl.Head, next int) {
	t.Helper()
	if got, gotNext, ok := impl.HeadAt(s, at); !sameHead(got, want) || gotNext != next || !ok {
		t.Errorf("HeadAt(%q, %d) = %+v, %d, %v; want %+v, %d, true", s, at, got, gotNext, ok, want, next)
	}
}

func wantNoHeadAt(t *testing.T, s string, at int) {
	t.Helper()
	if got, next, ok := impl.HeadAt(s, at); !sameHead(got, impl.Head{}) || next != 0 || ok {
		t.Errorf("HeadAt(%q, %d) = %+v, %d, %v; want the zero one, 0, false", s, at, got, next, ok)
	}
}

// What may stand ahead of a head and behind it, and is not to count.
var besideHeads = []string{"", "x", " ", "<", "<a>", ">", "]>", "]", "[", "<!DOCTYPE a>", "<!DOCTYPE b [", "<!--", "<!ENTITY f 'x'>", "'", "\"", "&", "\u00e9", "\xff", "\xc3", "\x00"}

// wantHead asks for what s is as a whole, wherever it stands.
func wantHead(t *testing.T, s string, want impl.Head) {
	t.Helper()
	for _, x := range besideHeads {
		wantHeadAt(t, x+s, len(x), want, len(x)+len(s))
		wantHeadAt(t, s+x, 0, want, len(s))
		wantHeadAt(t, x+s+x, len(x), want, len(x)+len(s))
	}
}

// wantNoHead asks of s, wherever it stands, that nothing is read there. s is to be such that what is put behind it could not mend it.
func wantNoHead(t *testing.T, s string) {
	t.Helper()
	for _, x := range besideHeads {
		wantNoHeadAt(t, x+s, len(x))
	}
	wantNoHeadAt(t, s+"<a>", 0)
}

// within is a head of the name a with these between `[` and `]`.
func within(parts ...string) string {
	return "<!DOCTYPE a [" + strings.Join(parts, "") + "]>"
}

// wantWithin asks for what stands in a head, and wantNoneWithin that it may not stand there.
func wantWithin(t *testing.T, s string, of ...any) {
	t.Helper()
	wantHead(t, within(s), head(of...))
}

func wantNoneWithin(t *testing.T, s string) {
	t.Helper()
	wantNoHead(t, within(s))
	wantNoHead(t, within("<!--n-->", s))
	wantNoHead(t, within(s, "<!--n-->"))
	wantNoHead(t, within("<!ENTITY z 'z'>\n", s, "\n<!ATTLIST z z CDATA #IMPLIED>"))
}

var someBlanks = []string{" ", "\t", "\n", "\r", "\r\n", " \t\n\r ", strings.Repeat(" \n", 1000)}

// What is a blank elsewhere is none here.
var noBlanks = []string{"", "\u00a0", "\u0085", "\u2028", "\u3000", "\x0b", "\x0c", "\x00", "&#32;", "<!--n-->", ",", "\xff"}

func TestHeadsOfANameAlone(t *testing.T) {
	if impl.MaxDefs != 6 {
		t.Errorf("MaxDefs = %d", impl.MaxDefs)
	}
	wantHead(t, "<!DOCTYPE a>", head())
	wantHead(t, "<!DOCTYPE p:a>", impl.Head{Name: "p:a"})
	wantHead(t, "<!DOCTYPE xml:xmlns>", impl.Head{Name: "xml:xmlns"})
	wantHead(t, "<!DOCTYPE DOCTYPE>", impl.Head{Name: "DOCTYPE"})
	wantHeadAt(t, "<!DOCTYPE a>", 0, head(), 12)
	wantHeadAt(t, " <!DOCTYPE p:a>", 1, impl.Head{Name: "p:a"}, 15)
	wantHeadAt(t, "<!DOCTYPE a><!DOCTYPE b>", 0, head(), 12)
	wantHeadAt(t, "<!DOCTYPE a><!DOCTYPE b>", 12, impl.Head{Name: "b"}, 24)
	for _, some := range someBlanks {
		wantHead(t, "<!DOCTYPE"+some+"a>", head())
		wantHead(t, "<!DOCTYPE a"+some+">", head())
		wantHead(t, "<!DOCTYPE"+some+"a"+some+">", head())
		for _, s := range []string{"%s<!DOCTYPE a>", "<%s!DOCTYPE a>", "<!%sDOCTYPE a>", "<!DOC%sTYPE a>", "<!DOCTYPE%s>", "<!DOCTYPE a%sb>", "<!DOCTYPE p:%sa>", "<!DOCTYPE p%s:a>"} {
			wantNoHead(t, strings.ReplaceAll(s, "%s", some))
		}
	}
	for _, none := range noBlanks {
		wantNoHead(t, "<!DOCTYPE"+none+"a>")
		if none != "" {
			wantNoHead(t, "<!DOCTYPE"+none+" a>")
			wantNoHead(t, "<!DOCTYPE "+none+"a>")
			wantNoHead(t, "<!DOCTYPE a"+none+">")
			wantNoHead(t, "<!DOCTYPE a "+none+">")
		}
	}
}

func TestHeadsThatBeginOtherwise(t *testing.T) {
	for _, s := range []string{
		"", "<", "<!", "<!D", "<!DOCTYPE", "<!DOCTYPE ", "<!DOCTYPE>", "<!DOCTYPE >", "<!DOCTYPEa>", "<!doctype a>", "<!Doctype a>", "<!DOCTYPEa a>", "<!DOCTYPES a>", "<!DOCTYP a>", "<!DOCTYPE[]>", "<!DOCTYPE []>", "<!DOCTYPE ['']>",
		"!DOCTYPE a>", "<DOCTYPE a>", "< !DOCTYPE a>", "<?DOCTYPE a?>", "<!--a-->", "<!ENTITY e 'x'>", "<!ATTLIST a>", "<a>", "<![CDATA[a]]>", "a", ">", "[", "<!DOCTYPE a/>", "<!DOCTYPE /a>", "<!DOCTYPE 'a'>", "<!DOCTYPE a='b'>", "<!DOCTYPE a SYSTEM 'b'>", "<!DOCTYPE a PUBLIC 'b' 'c'>", "<!DOCTYPE a b>", "<!DOCTYPE a <b>", "<!DOCTYPE a !>",
		"<!DOCTYPE a ]>", "<!DOCTYPE a]>", "<!DOCTYPE a [[]>", "<!DOCTYPE a []]>", "<!DOCTYPE a [] []>", "<!DOCTYPE a [[]]>", "<!DOCTYPE a [] x>", "<!DOCTYPE a x []>", "<!DOCTYPE a []<!--n-->>", "<!DOCTYPE a <!--n-->[]>", "<!DOCTYPE a (]>", "<!DOCTYPE a [)>", "<!DOCTYPE a [}>", "<!DOCTYPE a [<!--n-->)>", "<!DOCTYPE a [>", "<!DOCTYPE a [ >", "<!DOCTYPE a [/]>", "<!DOCTYPE a []/>", "<!DOCTYPE a ['']>", "<!DOCTYPE a [x]>", "<!DOCTYPE a [x<!--n-->]>", "<!DOCTYPE a [<!--n-->x]>",
	} {
		wantNoHead(t, s)
	}
}

func TestNamesOfHeads(t *testing.T) {
	for form, want := range map[string]func(string) impl.Head{
		"<!DOCTYPE %s>":                               func(s string) impl.Head { return impl.Head{Name: s} },
		"<!DOCTYPE\n%s [] >":                          func(s string) impl.Head { return impl.Head{Name: s} },
		"<!DOCTYPE %s[<!--n-->]>":                     func(s string) impl.Head { return impl.Head{Name: s} },
		"<!DOCTYPE a [<!ATTLIST %s>]>":                func(s string) impl.Head { return head() },
		"<!DOCTYPE a [<!ATTLIST %s b ID #IMPLIED>]>":  func(s string) impl.Head { return head(idDef(s, "b")) },
		"<!DOCTYPE a [<!ATTLIST a %s CDATA ''>]>":     func(s string) impl.Head { return head(valDef("a", s, "")) },
		"<!DOCTYPE a [<!ATTLIST a %s ID #IMPLIED >]>": func(s string) impl.Head { return head(idDef("a", s)) },
	} {
		for _, s := range plainNames {
			for _, name := range []string{s, "p:" + s, "xmlns:" + s, "sixteenletters_x:" + s, s + ":a"} {
				x := fmt.Sprintf(form, name)
				wantHeadAt(t, x, 0, want(name), len(x))
			}
		}
		for _, s := range noNames {
			// Of these the beginning is a name, and what stands behind it may go on well.
			if strings.ContainsAny(s, " \t\n\r") {
				continue
			}
			for _, name := range []string{s, "p:" + s, s + ":a"} {
				wantNoHeadAt(t, fmt.Sprintf(form, name), 0)
			}
		}
	}
}

func TestHeadsWithNothingWithin(t *testing.T) {
	wantHead(t, "<!DOCTYPE a []>", head())
	wantHead(t, "<!DOCTYPE a[]>", head())
	wantHead(t, "<!DOCTYPE p:a[]>", impl.Head{Name: "p:a"})
	for _, some := range someBlanks {
		for _, s := range []string{"<!DOCTYPE%sa[]>", "<!DOCTYPE a%s[]>", "<!DOCTYPE a[%s]>", "<!DOCTYPE a[]%s>", "<!DOCTYPE%sa%s[%s]%s>"} {
			wantHead(t, strings.ReplaceAll(s, "%s", some), head())
		}
	}
	for _, none := range noBlanks {
		// A note may stand within.
		if none == "" {
			continue
		}
		for _, s := range []string{"<!DOCTYPE a%s[]>", "<!DOCTYPE a []%s>", "<!DOCTYPE a [] %s>", "<!DOCTYPE a %s[]>"} {
			wantNoHead(t, strings.ReplaceAll(s, "%s", none))
		}
		if none != "<!--n-->" {
			wantNoneWithin(t, none)
		}
	}
}

func TestNotesInHeads(t *testing.T) {
	for _, s := range []string{
		"", "n", " ", " n ", "a-b", "- - x", "-a", "->", ">", "]", "]>", "[", "<", "<!", "<!-x", "<!ENTITY e 'x'>", "<a>", "&", "&nope;", "&#0;", "'", "\"", "\t\n", "?>", "]]>", "\u00e9\u3042\U00010000", strings.Repeat("n", impl.MaxText), strings.Repeat("\u00e9", impl.MaxText/2),
	} {
		wantWithin(t, "<!--"+s+"-->")
		wantWithin(t, "<!--"+s+"--><!--"+s+"-->")
		wantWithin(t, " <!--"+s+"-->\n<!ENTITY e 'x'><!--"+s+"-->\r", ent("e", "x"))
	}
	for _, s := range []string{
		"a--b", "--", "--a", "a--", "-", "a-", "- -", "---", " -", "\r", "a\rb", "\r\n", "a\r", "\ra", "<!--", "a<!--b", strings.Repeat("n", impl.MaxText+1), strings.Repeat("n", impl.MaxText) + "-", strings.Repeat("\u00e9", impl.MaxText/2) + "n",
	} {
		wantNoneWithin(t, "<!--"+s+"-->")
	}
	for _, wrong := range noTexts {
		for _, s := range []string{wrong, "n" + wrong, wrong + "n", "n" + wrong + "n"} {
			wantNoneWithin(t, "<!--"+s+"-->")
		}
	}
	// The next end counts: what stands behind it is no note any more.
	for _, s := range []string{"<!--n-->n-->", "<!---->-->", "<!-->", "<!--->", "<!-- >", "<!--n>", "<!--n->", "<!--n-- >", "<!--n--!>", "<!--n- ->", "<! --n-->", "<!- -n-->", "< !--n-->", "--n-->", "<!-n-->", "<!-n->", "<--n-->"} {
		wantNoneWithin(t, s)
	}
}

// valueForms have a value in one place of a head. What is told is the Ent, or the Def, of it.
var valueForms = []struct {
	ahead  string
	behind string
	blanks bool
	of     func(string) any
}{
	{"<!ENTITY v ", ">", false, func(s string) any { return ent("v", s) }},
	{"<!ENTITY\nv\t", " >", false, func(s string) any { return ent("v", s) }},
	{"<!ATTLIST v v CDATA ", ">", true, func(s string) any { return valDef("v", "v", s) }},
	{"<!ATTLIST p:v\nq:v\tCDATA\r", "\n>", true, func(s string) any { return valDef("p:v", "q:v", s) }},
}

// wantValue asks for what a value is read as where it stays as it is, and where each blank is turned.
func wantValue(t *testing.T, value string, asEnt string, asDef string) {
	t.Helper()
	for _, f := range valueForms {
		want := asEnt
		if f.blanks {
			want = asDef
		}
		wantWithin(t, f.ahead+value+f.behind, f.of(want))
		wantWithin(t, "<!--n--> "+f.ahead+value+f.behind+" <!--n-->", f.of(want))
	}
}

func wantNoValue(t *testing.T, value string) {
	t.Helper()
	for _, f := range valueForms {
		wantNoneWithin(t, f.ahead+value+f.behind)
	}
}

func TestValuesInHeads(t *testing.T) {
	for s, want := range map[string]string{
		"": "", "x": "x", " ": " ", "x y": "x y", ">": ">", "]": "]", "]>": "]>", "[": "[", "-->": "-->", "]]>": "]]>", "?>": "?>", "/>": "/>", "=": "=", ";": ";", "#IMPLIED": "#IMPLIED", "CDATA": "CDATA",
		"&lt;": "<", "&gt;": ">", "&amp;": "&", "&apos;": "'", "&quot;": "\"", "&#65;": "A", "&#x41;": "A", "&#60;&#62;": "<>", "&#34;&#39;": "\"'", "a&lt;b&lt;c": "a<b<c",
		"&amp;lt;": "&lt;", "&#38;lt;": "&lt;", "&amp;v;": "&v;", "&#38;#65;": "&#65;",
		"\u00e9\u3042\U00010000": "\u00e9\u3042\U00010000", "\u00a0\u0085": "\u00a0\u0085", "\ufffd": "\ufffd",
		"&#9;": "\t", "&#10;": "\n", "&#13;": "\r", "&#32;": " ", "x&#xD;&#xA;y": "x\r\ny",
	} {
		for _, quote := range []string{"'", "\""} {
			wantValue(t, quote+s+quote, want, want)
		}
	}
	for s, want := range map[string]string{
		"\t": " ", "\n": " ", "\r": " ", "\r\n": "  ", "x\ty\nz\rw v": "x y z w v", "\n&#10;\n": " \n ", "\t&#9;\t": " \t ", "\r&#13;\r": " \r ", " \n ": "   ",
	} {
		asEnt := strings.NewReplacer("&#10;", "\n", "&#9;", "\t", "&#13;", "\r").Replace(s)
		for _, quote := range []string{"'", "\""} {
			wantValue(t, quote+s+quote, asEnt, want)
		}
	}
	// Each may have the other one's quote.
	wantValue(t, `'"'`, `"`, `"`)
	wantValue(t, `"'"`, `'`, `'`)
	wantValue(t, `'""'`, `""`, `""`)
	wantValue(t, `"' '"`, `' '`, `' '`)
	wantValue(t, `'x"y'`, `x"y`, `x"y`)
	for _, s := range []string{
		"", "x", "'", "\"", "'x", "\"x", "x'", "x\"", "'x\"", "\"x'", "'''", "\"\"\"", "'x'y'", "'x''y'", "'x' 'y'", "'x'y", "x'y'", "`x`", "''x", "'x',", "('x')", "&apos;x&apos;", "&#39;x&#39;", "\u2019x\u2019", "%x;",
		"'<'", "\"<\"", "'x<'", "'<x'", "'<a>'", "'&lt;<'", "'<!--n-->'", "'\n<\n'",
	} {
		wantNoValue(t, s)
	}
}

func TestValuesInHeadsThatAreNotRight(t *testing.T) {
	for _, s := range []string{
		"&", "&;", "& ", "&&", "&lt", "&LT;", "&nope;", "&v;", "&z", "&Z;", "&zz;", "& z;", "&z ;", "&p:z;", "&#;", "&#x;", "&#0;", "&#1;", "&#xD800;", "&#xFFFE;", "&#1114112;", "&#x110000;", "&#00000065;", "&#x0000041;", "&#X41;", "&#6_5;", "&#+65;",
	} {
		for _, x := range []string{s, "x" + s, "&lt;" + s, s + "&lt;", s + "x", "\n" + s} {
			wantNoValue(t, "'"+x+"'")
			wantNoValue(t, "\""+x+"\"")
		}
	}
	for _, wrong := range noTexts {
		for _, s := range []string{wrong, "x" + wrong, wrong + "x", "x" + wrong + "y"} {
			wantNoValue(t, "'"+s+"'")
			wantNoValue(t, "\""+s+"\"")
		}
	}
	// What ends a reference does not stand behind the value.
	wantNoValue(t, "'&lt' ;")
	wantNoneWithin(t, "<!ENTITY v '&lt'><!ENTITY w ';'>")
}

func TestValuesInHeadsOfMaxText(t *testing.T) {
	for _, sign := range []string{"x", "\u00e9", "\u3042", "\U00010000", ">"} {
		just := strings.Repeat(sign, impl.MaxText/len(sign))
		wantValue(t, "'"+just+"'", just, just)
		wantNoValue(t, "'"+just+"y'")
		wantNoValue(t, "'y"+just+"'")
	}
	// The limit is of what comes, not of what it comes of, which has its own.
	signs := strings.Repeat("<", impl.MaxDoc/4)
	wantValue(t, "'"+strings.Repeat("&lt;", impl.MaxDoc/4)+"'", signs, signs)
	wantNoValue(t, "'"+strings.Repeat("&lt;", impl.MaxDoc/4)+"x'")
	wantNoValue(t, "'"+strings.Repeat("&#x0041;", impl.MaxDoc/8)+"xxxxx'")
	half := "<!ENTITY h '" + strings.Repeat("h", impl.MaxText/2) + "'>"
	for _, f := range valueForms {
		wantHead(t, within(half, f.ahead, "'&h;&h;'", f.behind), head(ent("h", strings.Repeat("h", impl.MaxText/2)), f.of(strings.Repeat("h", impl.MaxText))))
		wantNoHead(t, within(half, f.ahead, "'&h;&h;x'", f.behind))
		wantNoHead(t, within(half, f.ahead, "'&h;&#120;&h;'", f.behind))
	}
}

func TestEntsInHeads(t *testing.T) {
	wantWithin(t, "<!ENTITY e 'x'>", ent("e", "x"))
	wantWithin(t, "<!ENTITY e \"x\">", ent("e", "x"))
	wantWithin(t, "<!ENTITY e ''>", ent("e", ""))
	wantWithin(t, "<!ENTITY ENTITY 'ENTITY'>", ent("ENTITY", "ENTITY"))
	wantWithin(t, "<!ENTITY e 'x'><!ENTITY f 'y'>", ent("e", "x"), ent("f", "y"))
	// In the order in which they stand.
	wantWithin(t, "<!ENTITY f 'x'> <!ENTITY e 'y'>\n<!ENTITY E 'z'>", ent("f", "x"), ent("e", "y"), ent("E", "z"))
	for _, some := range someBlanks {
		for _, s := range []string{"<!ENTITY%se 'x'>", "<!ENTITY e%s'x'>", "<!ENTITY e 'x'%s>", "%s<!ENTITY e 'x'>", "<!ENTITY e 'x'>%s", "%s<!ENTITY%se%s'x'%s>%s"} {
			wantWithin(t, strings.ReplaceAll(s, "%s", some), ent("e", "x"))
		}
		for _, s := range []string{"<!ENTITY%s>", "<!ENTITY%s'x'>", "<!ENTITY%se>", "<!ENTITY e%s>", "<%s!ENTITY e 'x'>", "<!%sENTITY e 'x'>", "<!ENT%sITY e 'x'>", "<!ENTITY e%sf 'x'>", "<!ENTITY e 'x'%s'y'>", "<!ENTITY %%se 'x'>", "<!ENTITY e%s= 'x'>"} {
			wantNoneWithin(t, strings.ReplaceAll(s, "%s", some))
		}
	}
	for _, none := range noBlanks {
		for _, s := range []string{"<!ENTITY%se 'x'>", "<!ENTITY e%s'x'>"} {
			wantNoneWithin(t, strings.ReplaceAll(s, "%s", none))
		}
		if none != "" {
			wantNoneWithin(t, "<!ENTITY e 'x'"+none+">")
			wantNoneWithin(t, "<!ENTITY "+none+"e 'x'>")
			wantNoneWithin(t, "<!ENTITY e "+none+"'x'>")
		}
	}
	for _, s := range []string{
		"<!ENTITY", "<!ENTITY>", "<!ENTITY e", "<!ENTITY e 'x'", "<!ENTITYx 'x'>", "<!ENTITYx e 'x'>", "<!ENTITYS e 'x'>", "<!ENTIT e 'x'>", "<!entity e 'x'>", "<!Entity e 'x'>", "<ENTITY e 'x'>", "!ENTITY e 'x'>", "<?ENTITY e 'x'?>", "<!ENTITY e 'x'/>", "<!ENTITY e SYSTEM 'x'>", "<!ENTITY % e 'x'>", "<!ENTITY e='x'>", "<!ENTITY e CDATA 'x'>", "<!ENTITY e #IMPLIED>", "<!ENTITY 'e' 'x'>", "<!ENTITY &e; 'x'>", "<!ENTITY e 'x' <!--n-->>", "<!ENTITY e 'x'>>", "<!ENTITY e 'x']>",
	} {
		wantNoneWithin(t, s)
	}
}

func TestNamesOfEntsInHeads(t *testing.T) {
	for _, s := range plainNames {
		if _, fixed := fixedRefs[s]; !fixed {
			wantWithin(t, "<!ENTITY "+s+" 'x'>", ent(s, "x"))
			wantWithin(t, "<!ENTITY "+s+" 'x'><!ENTITY used '&"+s+";&"+s+";'>", ent(s, "x"), ent("used", "xx"))
		}
		// A part ahead is for a name, not for a plain one.
		wantNoneWithin(t, "<!ENTITY p:"+s+" 'x'>")
		wantNoneWithin(t, "<!ENTITY "+s+":p 'x'>")
	}
	for _, s := range noNames {
		// Of these the beginning is a name, or a name stands behind a blank.
		if !strings.ContainsAny(s, " \t\n\r") {
			wantNoneWithin(t, "<!ENTITY "+s+" 'x'>")
		}
	}
	for name, val := range fixedRefs {
		wantNoneWithin(t, "<!ENTITY "+name+" 'x'>")
		wantNoneWithin(t, "<!ENTITY "+name+" '&"+name+";'>")
		wantNoneWithin(t, "<!ENTITY e 'x'><!ENTITY "+name+" '&#"+fmt.Sprint(int(val[0]))+";'>")
		wantWithin(t, "<!ENTITY "+strings.ToUpper(name)+" '&"+name+";'>", ent(strings.ToUpper(name), val))
	}
}

func TestEntsOfOneNameInHeads(t *testing.T) {
	wantNoneWithin(t, "<!ENTITY e 'x'><!ENTITY e 'y'>")
	wantNoneWithin(t, "<!ENTITY e 'x'><!ENTITY e 'x'>")
	wantNoneWithin(t, "<!ENTITY e 'x'><!ENTITY e '&e;'>")
	wantNoneWithin(t, "<!ENTITY e ''><!ENTITY f ''><!ENTITY e ''>")
	wantNoneWithin(t, "<!ENTITY f ''><!ENTITY e ''><!--n--><!ATTLIST a e CDATA ''><!ENTITY e ''>")
	wantWithin(t, "<!ENTITY e 'x'><!ENTITY f 'x'><!ATTLIST e f CDATA #IMPLIED>", ent("e", "x"), ent("f", "x"), implied("e", "f"))
}

func TestMaxEntsInHeads(t *testing.T) {
	var parts []string
	var ents []any
	for i := range 2 * impl.MaxEnts {
		s := within(parts...)
		if i <= impl.MaxEnts {
			wantHead(t, s, head(ents...))
		} else {
			wantNoHead(t, s)
		}
		parts = append(parts, fmt.Sprintf("<!ENTITY e%d '%d'>", i, i))
		ents = append(ents, ent(fmt.Sprintf("e%d", i), fmt.Sprint(i)))
	}
	for i := range 1000 {
		parts = append(parts, fmt.Sprintf("<!ENTITY m%d ''>", i))
	}
	wantNoHeadAt(t, within(parts...), 0)
}

func TestWhatUsesWhatStandsAhead(t *testing.T) {
	e, f := "<!ENTITY e 'x'>", "<!ENTITY f 'a&e;b'>"
	wantWithin(t, e+f, ent("e", "x"), ent("f", "axb"))
	wantWithin(t, e+"<!--n-->"+f+"<!ENTITY g \"&f;&e;&f;\">", ent("e", "x"), ent("f", "axb"), ent("g", "axbxaxb"))
	wantWithin(t, e+"<!ATTLIST a b CDATA '&e;'>", ent("e", "x"), valDef("a", "b", "x"))
	wantWithin(t, e+f+"<!ATTLIST a b CDATA '&f;&e;' c CDATA #IMPLIED d CDATA \"&e;\n\">", ent("e", "x"), ent("f", "axb"), valDef("a", "b", "axbx"), implied("a", "c"), valDef("a", "d", "x "))
	// What comes behind is not there yet, nor is an Ent in its own value.
	for _, s := range []string{
		f + e, "<!ENTITY e '&e;'>", "<!ENTITY e '&f;'><!ENTITY f '&e;'>", "<!ENTITY e 'x'><!ENTITY f '&g;'><!ENTITY g 'y'>",
		"<!ATTLIST a b CDATA '&e;'>" + e, "<!ATTLIST a b CDATA '&e;'><!--n-->" + e, e + "<!ATTLIST a b CDATA '&e;' c CDATA '&f;'>" + f, "<!ATTLIST a b CDATA 'x' c CDATA '&b;'>", "<!ATTLIST a b CDATA 'x'><!ENTITY c '&b;'>",
	} {
		wantNoneWithin(t, s)
	}
	// An Ent is what it stood for when it was read; what it brings is not looked at again.
	wantWithin(t, "<!ENTITY e '&amp;lt;'><!ENTITY f '&e;'>", ent("e", "&lt;"), ent("f", "&lt;"))
	wantWithin(t, "<!ENTITY e '&lt;'><!ENTITY f '&e;b&e;'><!ATTLIST a b CDATA '&f;'>", ent("e", "<"), ent("f", "<b<"), valDef("a", "b", "<b<"))
	wantWithin(t, "<!ENTITY e '&#38;f;'><!ENTITY f 'y'><!ENTITY g '&e;'>", ent("e", "&f;"), ent("f", "y"), ent("g", "&f;"))
	wantWithin(t, "<!ENTITY e \"&#34;'&#x22;\"><!ATTLIST a b CDATA \"&e;\">", ent("e", "\"'\""), valDef("a", "b", "\"'\""))
	// Blanks of a Def's value are turned ahead of what Ents bring, theirs stay.
	wantWithin(t, "<!ENTITY e '\t\n\r '><!ATTLIST a b CDATA '\t&e;\n'>", ent("e", "\t\n\r "), valDef("a", "b", " \t\n\r  "))
	wantWithin(t, "<!ENTITY e '&#9;&#10;&#13;'><!ENTITY f '&e;\n'><!ATTLIST a b CDATA '&f;&#10;'>", ent("e", "\t\n\r"), ent("f", "\t\n\r\n"), valDef("a", "b", "\t\n\r\n\n"))
	// What another head has counts for nothing here, nor does one that was refused.
	wantNoHeadAt(t, within(e)+within(f), len(within(e)))
	wantNoHead(t, within(f))
}

func TestDefsInHeads(t *testing.T) {
	wantWithin(t, "<!ATTLIST a>")
	wantWithin(t, "<!ATTLIST a ><!ATTLIST a>\n<!ATTLIST p:b\n>")
	wantWithin(t, "<!ATTLIST a b CDATA #IMPLIED>", implied("a", "b"))
	wantWithin(t, "<!ATTLIST a b ID #IMPLIED>", idDef("a", "b"))
	wantWithin(t, "<!ATTLIST a b CDATA 'x'>", valDef("a", "b", "x"))
	wantWithin(t, "<!ATTLIST a b CDATA \"x\">", valDef("a", "b", "x"))
	wantWithin(t, "<!ATTLIST a b CDATA ''>", valDef("a", "b", ""))
	wantWithin(t, "<!ATTLIST p:a q:b CDATA 'x' xmlns CDATA 'u' xmlns:p CDATA 'v'>", valDef("p:a", "q:b", "x"), valDef("p:a", "xmlns", "u"), valDef("p:a", "xmlns:p", "v"))
	wantWithin(t, "<!ATTLIST a b CDATA #IMPLIED c ID #IMPLIED d CDATA 'x' e CDATA \"y\" f ID #IMPLIED>", implied("a", "b"), idDef("a", "c"), valDef("a", "d", "x"), valDef("a", "e", "y"), idDef("a", "f"))
	wantWithin(t, "<!ATTLIST b b ID #IMPLIED><!ATTLIST a z CDATA 'x' b CDATA #IMPLIED>", idDef("b", "b"), valDef("a", "z", "x"), implied("a", "b"))
	// Words are names as well.
	wantWithin(t, "<!ATTLIST ID CDATA ID #IMPLIED ID CDATA 'CDATA' IMPLIED CDATA #IMPLIED>", idDef("ID", "CDATA"), valDef("ID", "ID", "CDATA"), implied("ID", "IMPLIED"))
	wantWithin(t, "<!ATTLIST a b CDATA '#IMPLIED'>", valDef("a", "b", "#IMPLIED"))
	for _, s := range []string{
		"<!ATTLIST", "<!ATTLIST>", "<!ATTLIST >", "<!ATTLISTa>", "<!ATTLISTa b CDATA 'x'>", "<!ATTLISTx a b CDATA 'x'>", "<!ATTLISTS a>", "<!ATTLIS a>", "<!attlist a>", "<!Attlist a>", "<ATTLIST a>", "!ATTLIST a>", "<?ATTLIST a?>", "<!ATTLIST a/>", "<!ATTLIST 'a'>", "<!ATTLIST &e;>", "<!ATTLIST -a>", "<!ATTLIST a>>",
		"<!ATTLIST a", "<!ATTLIST a b", "<!ATTLIST a b>", "<!ATTLIST a b CDATA", "<!ATTLIST a b CDATA>", "<!ATTLIST a b ID>", "<!ATTLIST a b CDATA #IMPLIED", "<!ATTLIST a b CDATA 'x'", "<!ATTLIST a CDATA #IMPLIED>", "<!ATTLIST CDATA #IMPLIED>", "<!ATTLIST b CDATA 'x'>", "<!ATTLIST a b #IMPLIED>", "<!ATTLIST a b 'x'>", "<!ATTLIST a b='x'>", "<!ATTLIST a b = 'x'>", "<!ATTLIST a 'x'>",
		"<!ATTLIST a b cdata #IMPLIED>", "<!ATTLIST a b Id #IMPLIED>", "<!ATTLIST a b id #IMPLIED>", "<!ATTLIST a b IDREF #IMPLIED>", "<!ATTLIST a b IDS #IMPLIED>", "<!ATTLIST a b CDATAS #IMPLIED>", "<!ATTLIST a b CDAT #IMPLIED>", "<!ATTLIST a b I #IMPLIED>", "<!ATTLIST a b NMTOKEN #IMPLIED>", "<!ATTLIST a b (x|y) #IMPLIED>", "<!ATTLIST a b CDATA ID #IMPLIED>", "<!ATTLIST a b ID CDATA #IMPLIED>", "<!ATTLIST a b CDATA CDATA #IMPLIED>", "<!ATTLIST a b 'CDATA' #IMPLIED>",
		"<!ATTLIST a b CDATA IMPLIED>", "<!ATTLIST a b CDATA #implied>", "<!ATTLIST a b CDATA #Implied>", "<!ATTLIST a b CDATA #IMPLIE>", "<!ATTLIST a b CDATA #IMPLIEDS>", "<!ATTLIST a b CDATA # IMPLIED>", "<!ATTLIST a b CDATA #REQUIRED>", "<!ATTLIST a b CDATA #FIXED 'x'>", "<!ATTLIST a b CDATA #IMPLIED 'x'>", "<!ATTLIST a b CDATA 'x' #IMPLIED>", "<!ATTLIST a b CDATA #>", "<!ATTLIST a b CDATA x>", "<!ATTLIST a b CDATA #IMPLIED #IMPLIED>", "<!ATTLIST a b CDATA 'x' 'y'>", "<!ATTLIST a b CDATA %x;>",
		"<!ATTLIST a b ID 'x'>", "<!ATTLIST a b ID \"x\">", "<!ATTLIST a b ID ''>", "<!ATTLIST a b ID #REQUIRED>", "<!ATTLIST a b ID #IMPLIED 'x'>", "<!ATTLIST a b ID 'x' #IMPLIED>", "<!ATTLIST a c CDATA 'x' b ID 'x'>", "<!ATTLIST a b ID 'x' c CDATA 'x'>",
		"<!ATTLIST a b CDATA 'x' c>", "<!ATTLIST a b CDATA 'x' c CDATA>", "<!ATTLIST a b CDATA 'x',c CDATA 'y'>", "<!ATTLIST a b,c CDATA 'x'>", "<!ATTLIST a b CDATA <!--n-->'x'>", "<!ATTLIST a <!--n-->>", "<!ATTLIST a b CDATA 'x'/>", "<!ATTLIST a b CDATA 'x']>",
	} {
		wantNoneWithin(t, s)
	}
}

func TestBlanksInDefs(t *testing.T) {
	for _, some := range someBlanks {
		for _, s := range []string{"<!ATTLIST%sa b CDATA 'x'>", "<!ATTLIST a%sb CDATA 'x'>", "<!ATTLIST a b%sCDATA 'x'>", "<!ATTLIST a b CDATA%s'x'>", "<!ATTLIST a b CDATA 'x'%s>", "%s<!ATTLIST a b CDATA 'x'>", "<!ATTLIST a b CDATA 'x'>%s", "%s<!ATTLIST%sa%sb%sCDATA%s'x'%s>%s"} {
			wantWithin(t, strings.ReplaceAll(s, "%s", some), valDef("a", "b", "x"))
		}
		for _, s := range []string{"<!ATTLIST a b ID%s#IMPLIED>", "<!ATTLIST a b%sID #IMPLIED>", "<!ATTLIST a b ID #IMPLIED%s>"} {
			wantWithin(t, strings.ReplaceAll(s, "%s", some), idDef("a", "b"))
		}
		for _, s := range []string{"<!ATTLIST a b CDATA%s#IMPLIED>", "<!ATTLIST a b CDATA #IMPLIED%s>"} {
			wantWithin(t, strings.ReplaceAll(s, "%s", some), implied("a", "b"))
		}
		for _, s := range []string{"<!ATTLIST a b CDATA 'x'%sc CDATA 'y'>", "<!ATTLIST a b CDATA 'x' c%sCDATA%s'y'>"} {
			wantWithin(t, strings.ReplaceAll(s, "%s", some), valDef("a", "b", "x"), valDef("a", "c", "y"))
		}
		wantWithin(t, "<!ATTLIST a b ID #IMPLIED"+some+"c CDATA #IMPLIED>", idDef("a", "b"), implied("a", "c"))
		wantWithin(t, "<!ATTLIST a"+some+">")
		for _, s := range []string{"<!ATT%sLIST a>", "<!%sATTLIST a>", "<!ATTLIST%s>", "<!ATTLIST p%s:a>", "<!ATTLIST a p:%sb CDATA 'x'>", "<!ATTLIST a b CDA%sTA 'x'>", "<!ATTLIST a b I%sD #IMPLIED>", "<!ATTLIST a b CDATA #%sIMPLIED>", "<!ATTLIST a b CDATA #IMP%sLIED>", "<!ATTLIST a%sb>", "<!ATTLIST a b%sCDATA>"} {
			wantNoneWithin(t, strings.ReplaceAll(s, "%s", some))
		}
	}
	for _, none := range noBlanks {
		for _, s := range []string{"<!ATTLIST%sa>", "<!ATTLIST%sa b CDATA 'x'>", "<!ATTLIST a%sb CDATA 'x'>", "<!ATTLIST a b%sCDATA 'x'>", "<!ATTLIST a b CDATA%s'x'>", "<!ATTLIST a b CDATA%s#IMPLIED>", "<!ATTLIST a b%sID #IMPLIED>", "<!ATTLIST a b ID%s#IMPLIED>", "<!ATTLIST a b CDATA 'x'%sc CDATA 'y'>", "<!ATTLIST a b CDATA #IMPLIED%sc CDATA 'y'>", "<!ATTLIST a b ID #IMPLIED%sc CDATA 'y'>"} {
			wantNoneWithin(t, strings.ReplaceAll(s, "%s", none))
		}
		if none != "" {
			for _, s := range []string{"<!ATTLIST a%s>", "<!ATTLIST a %s>", "<!ATTLIST a %sb CDATA 'x'>", "<!ATTLIST a b %sCDATA 'x'>", "<!ATTLIST a b CDATA %s'x'>", "<!ATTLIST a b CDATA 'x'%s>", "<!ATTLIST a b CDATA #IMPLIED%s>", "<!ATTLIST a b ID %s#IMPLIED>"} {
				wantNoneWithin(t, strings.ReplaceAll(s, "%s", none))
			}
		}
	}
}

func TestDefsOfOneElAndAtInHeads(t *testing.T) {
	forms := []string{"CDATA #IMPLIED", "ID #IMPLIED", "CDATA 'x'", "CDATA 'y'"}
	for _, first := range forms {
		for _, second := range forms {
			wantNoneWithin(t, "<!ATTLIST a k "+first+" k "+second+">")
			wantNoneWithin(t, "<!ATTLIST a k "+first+" l ID #IMPLIED k "+second+">")
			wantNoneWithin(t, "<!ATTLIST a k "+first+"><!ATTLIST a k "+second+">")
			wantNoneWithin(t, "<!ATTLIST p:a q:k "+first+"><!ATTLIST b><!ENTITY e ''><!ATTLIST p:a l CDATA '' q:k "+second+">")
			// One of both alone may be the same; and a part ahead makes another one.
			for _, s := range []string{"<!ATTLIST a k %s l %s>", "<!ATTLIST a k %s><!ATTLIST b k %s>", "<!ATTLIST a k %s><!ATTLIST k a %s>", "<!ATTLIST a k %s><!ATTLIST p:a k %s>", "<!ATTLIST a k %s p:k %s>", "<!ATTLIST a k %s K %s>", "<!ATTLIST a b:k %s><!ATTLIST a:b k %s>"} {
				h, _, ok := impl.HeadAt(within(fmt.Sprintf(s, first, second)), 0)
				if !ok || len(h.Defs) != 2 {
					t.Errorf(s+": %+v", first, second, h)
				}
			}
		}
	}
}

func TestMaxDefsInHeads(t *testing.T) {
	for _, form := range []string{"CDATA #IMPLIED", "ID #IMPLIED", "CDATA 'x'"} {
		in, parts := "<!ATTLIST a", []string{"<!ENTITY e 'x'>"}
		ofOne, ofMany := []any{ent("e", "x")}, []any{ent("e", "x")}
		for i := range 2 * impl.MaxDefs {
			oneList, manyLists := within(parts[0], in, ">"), within(parts...)
			if i <= impl.MaxDefs {
				wantHead(t, oneList, head(ofOne...))
				wantHead(t, manyLists, head(ofMany...))
			} else {
				wantNoHead(t, oneList)
				wantNoHead(t, manyLists)
			}
			name := fmt.Sprintf("k%d", i)
			in += " " + name + " " + form
			parts = append(parts, "<!ATTLIST "+name+" k "+form+">", "<!ATTLIST none>")
			val := strings.HasSuffix(form, "'")
			d := impl.Def{El: "a", At: name, Id: strings.HasPrefix(form, "ID"), Has: val}
			if val {
				d.Val = "x"
			}
			ofOne = append(ofOne, d)
			d.El, d.At = name, "k"
			ofMany = append(ofMany, d)
		}
	}
	// There is no limit of what is no Def, nor of how long a head is.
	long := within(strings.Repeat("<!ATTLIST a>\n<!--n-->", 2000), "<!ATTLIST a b ID #IMPLIED>")
	wantHeadAt(t, long, 0, head(idDef("a", "b")), len(long))
}

func TestMarksInHeadsThatBeginAlike(t *testing.T) {
	for _, s := range []string{
		"<", "<!", "<!>", "<!-", "<!->", "<!--", "<!-->", "<!x>", "<!E>", "<!ENTITY>", "<!ENTITYx>", "<!ENTITYx 'x'>", "<!ENTITY-->", "<!A>", "<!ATTLIST>", "<!ATTLISTx>", "<!ATTLIST-->", "<!ATTLIST--a-->", "<!--ENTITY e 'x'>", "<!-ENTITY e 'x'>", "<!ELEMENT a ANY>", "<!NOTATION a>", "<!DOCTYPE a>", "<!DOCTYPE a []>", "<![CDATA[x]]>", "<![CDATA[ ]]>", "<![INCLUDE[<!--n-->]]>",
		"<?t?>", "<?t x?>", "<?xml version=\"1.0\"?>", "<a>", "<a/>", "</a>", "%e;", "&lt;", "&e;", "x", "-->", ">", "'", "]]>",
	} {
		wantNoneWithin(t, s)
	}
	// What another one is made of stands in each of these as it is.
	wantWithin(t, "<!--<!ENTITY e 'x'>-->")
	wantWithin(t, "<!--ENTITY e 'x'-->")
	wantWithin(t, "<!--]>--><!ENTITY e ']>'>", ent("e", "]>"))
	wantWithin(t, "<!ATTLIST a b CDATA '>' c CDATA ']>'>", valDef("a", "b", ">"), valDef("a", "c", "]>"))
	wantWithin(t, "<!ENTITY e '!--'><!ENTITY f '--&gt;'>", ent("e", "!--"), ent("f", "-->"))
}

type writtenHead struct {
	s string
	h impl.Head
}

// Heads of each form.
var someHeads = []writtenHead{
	{"<!DOCTYPE a>", head()},
	{"<!DOCTYPE p:a >", impl.Head{Name: "p:a"}},
	{"<!DOCTYPE\na[\n]\n>", head()},
	{"<!DOCTYPE a [<!--a-b-->]>", head()},
	{"<!DOCTYPE a [ <!ENTITY e \"x\"><!ENTITY f 'a&e;&#65;b'>\n<!--n--><!ATTLIST a id ID #IMPLIED v CDATA '&f;\n'> ] >", head(ent("e", "x"), ent("f", "axAb"), idDef("a", "id"), valDef("a", "v", "axAb "))},
	{"<!DOCTYPE a [<!ATTLIST p:a\tq:b CDATA #IMPLIED c CDATA \"\u00e9\"><!ENTITY \u3042 '\u00e9'>]>", head(implied("p:a", "q:b"), valDef("p:a", "c", "\u00e9"), ent("\u3042", "\u00e9"))},
}

func TestSomeHeads(t *testing.T) {
	for _, x := range someHeads {
		wantHead(t, x.s, x.h)
		for _, y := range someHeads {
			wantHeadAt(t, x.s+y.s, len(x.s), y.h, len(x.s)+len(y.s))
			wantHeadAt(t, x.s+y.s, 0, x.h, len(x.s))
		}
	}
}

func TestHeadsThatAreCutOff(t *testing.T) {
	for _, x := range someHeads {
		for i := range len(x.s) {
			for _, ahead := range besideHeads {
				wantNoHeadAt(t, ahead+x.s[:i], len(ahead))
			}
		}
	}
}

// One byte in each place of a head that is no sign, or the beginning of none.
func TestBrokenBytesInHeads(t *testing.T) {
	for _, x := range someHeads {
		for _, wrong := range noTexts {
			for i := range len(x.s) {
				wantNoHeadAt(t, x.s[:i]+wrong+x.s[i:], 0)
			}
			wantHeadAt(t, wrong+x.s+wrong, len(wrong), x.h, len(wrong)+len(x.s))
		}
	}
}

func TestHeadsAtWrongPlaces(t *testing.T) {
	for _, s := range []string{"", "x", "<!DOCTYPE a>", "<!DOCTYPE a []>", "\u00e9", "x<!DOCTYPE a>"} {
		for _, at := range []int{-1, -2, -len(s) - 1, len(s), len(s) + 1, len(s) + 2, 1000, math.MinInt, math.MaxInt, math.MinInt32, math.MaxInt32, 1 << 32, -1 << 32} {
			wantNoHeadAt(t, s, at)
		}
	}
	wantNoHeadAt(t, "<!DOCTYPE a>", 1)
	wantHeadAt(t, "<!DOCTYPE a>", 0, head(), 12)
	for at := 1; at < 12; at++ {
		wantNoHeadAt(t, "<!DOCTYPE a>", at)
		wantNoHeadAt(t, "<!DOCTYPE a><!DOCTYPE a>", at)
	}
	wantNoHeadAt(t, "\u00e9<!DOCTYPE a>", 1)
	wantHeadAt(t, "\u00e9<!DOCTYPE a>", 2, head(), 14)
}

const (
	noteInHead = `<!--(?:[^-\r]|-[^-\r])*-->`
	entInHead  = `<!ENTITY` + blankForm + `+(` + partForm + `)` + blankForm + `+` + valForm + blankForm + `*>`
	oneDef     = blankForm + `+` + nameForm + blankForm + `+(?:(CDATA)` + blankForm + `+(?:#IMPLIED|` + valForm + `)|(ID)` + blankForm + `+#IMPLIED)`
	defsInHead = `<!ATTLIST` + blankForm + `+` + nameForm + `((?:` + oneDef + `)*)` + blankForm + `*>`
)

var (
	wholeHead   = regexp.MustCompile(`^<!DOCTYPE` + blankForm + `+` + nameForm + blankForm + `*(?:\[` + blankForm + `*((?:(?:` + noteInHead + `|` + entInHead + `|` + defsInHead + `)` + blankForm + `*)*)\]` + blankForm + `*)?>`)
	partOfHead  = regexp.MustCompile(noteInHead + `|` + entInHead + `|` + defsInHead)
	entPart     = regexp.MustCompile(`^` + entInHead + `$`)
	defsPart    = regexp.MustCompile(`^` + defsInHead + `$`)
	oneDefAlone = regexp.MustCompile(oneDef)
)

// plainHead is another way to the same, for names of few signs, none of them too long.
func plainHead(s string) (impl.Head, int, bool) {
	found := wholeHead.FindStringSubmatch(s)
	if found == nil {
		return impl.Head{}, 0, false
	}
	h := impl.Head{Name: found[1]}
	for _, part := range partOfHead.FindAllString(found[2], -1) {
		if !impl.TextOk(part) || !plainPart(&h, part) {
			return impl.Head{}, 0, false
		}
	}
	elAndAt := map[[2]string]int{}
	for _, d := range h.Defs {
		elAndAt[[2]string{d.El, d.At}]++
	}
	if len(h.Defs) > 6 || len(elAndAt) < len(h.Defs) {
		return impl.Head{}, 0, false
	}
	return h, len(found[0]), true
}

func plainPart(h *impl.Head, part string) bool {
	if found := entPart.FindStringSubmatch(part); found != nil {
		val, ok := plainExpand(found[2]+found[3], h.Ents)
		for _, e := range h.Ents {
			ok = ok && e.Name != found[1]
		}
		_, fixed := fixedRefs[found[1]]
		h.Ents = append(h.Ents, ent(found[1], val))
		return ok && !fixed && len(h.Ents) <= 4
	}
	all := defsPart.FindStringSubmatch(part)
	if all == nil {
		return true
	}
	for _, found := range oneDefAlone.FindAllStringSubmatch(all[2], -1) {
		d := impl.Def{El: all[1], At: found[1], Id: found[5] == "ID"}
		if d.Has = !strings.HasSuffix(found[0], "#IMPLIED"); d.Has {
			val, ok := plainExpand(oneBlank.ReplaceAllString(found[3]+found[4], " "), h.Ents)
			if !ok {
				return false
			}
			d.Val = val
		}
		h.Defs = append(h.Defs, d)
	}
	return true
}

func checkHead(t *testing.T, s string) bool {
	t.Helper()
	got, next, ok := impl.HeadAt(s, 0)
	want, wantNext, wantOk := plainHead(s)
	if !sameHead(got, want) || next != wantNext || ok != wantOk {
		t.Fatalf("HeadAt(%q) = %+v, %d, %v; want %+v, %d, %v", s, got, next, ok, want, wantNext, wantOk)
	}
	return ok
}

func TestHeadsAnotherWay(t *testing.T) {
	read := 0
	check := func(ahead string, behind string, pieces []string, length int) {
		for _, s := range allOf(pieces, length) {
			if checkHead(t, ahead+s+behind) {
				read++
			}
		}
	}
	check("", "", []string{"<!DOCTYPE", " ", "\n", "a", "a:b", ":", "[", "]", ">", "\u00e9"}, 5)
	check("<!DOCTYPE a ", ">", []string{"[", "]", " ", "<!--n-->", "<!ENTITY e 'x'>", "<!ATTLIST a>", ">", "x"}, 5)
	check("<!DOCTYPE a [<!--", "]>", []string{"-", ">", " ", "\r", "n", "-->", "<!--", "]"}, 5)
	check("<!DOCTYPE a [<!ENTITY z 'z'><!ENTITY", "]>", []string{" ", "\n", "e", "z", ":", "'", "\"", "&z;", "<", ">"}, 6)
	check("<!DOCTYPE a [<!ATTLIST", "]>", []string{" ", "\t", "a", "b:c", " ID", " CDATA", " #IMPLIED", " 'x'", "\"\ny\"", ">"}, 5)
	check("<!DOCTYPE a [<!ATTLIST a", ">]>", []string{" b CDATA #IMPLIED", " c ID #IMPLIED", " d CDATA 'x\n'", " e ID 'x'", " ", " b", " CDATA", "><!ATTLIST a", "><!ATTLIST b", ">\n<!ENTITY f ''"}, 5)
	check("<!DOCTYPE a [", "]>", []string{"<!ENTITY e 'x'>", "<!ENTITY f '&e;'>", "<!ENTITY g \"&f;&e;\">", "<!ATTLIST a b CDATA '&e;'>", "<!ATTLIST a c CDATA \"\n&g;\">", "<!ATTLIST c c CDATA '&f;'>", " "}, 5)
	if read < 15000 {
		t.Errorf("only %d heads were read", read)
	}
}

// What is read hangs on nothing ahead of it or behind it, whatever bytes stand there.
func TestHeadsOfAnyBytes(t *testing.T) {
	for a := range 256 {
		for b := range 256 {
			s := string([]byte{byte(a), byte(b)})
			for _, x := range []string{"<!DOCTYPE" + s + "a>", "<!DOCTYPE a" + s + ">", "<!DOCTYPE a [" + s + "]>", "<!DOCTYPE a [<!--" + s + "-->]>", "<!DOCTYPE a [<!ENTITY e '" + s + "'>]>", "<!DOCTYPE a [<!ATTLIST a b CDATA '" + s + "'>]>", "<!DOCTYPE a [<!ATTLIST a b" + s + "ID #IMPLIED>]>"} {
				got, next, ok := impl.HeadAt(x, 0)
				if !ok {
					wantNoHeadAt(t, x, 0)
				} else {
					wantHeadAt(t, x[:next], 0, got, next)
				}
				if want, wantNext, wantOk := impl.HeadAt(s+x+s, 2); ok != wantOk || !sameHead(got, want) || ok && wantNext != next+2 {
					t.Fatalf("HeadAt(%q) = %+v, %v; with %q around it %+v, %v", x, got, ok, s, want, wantOk)
				}
			}
		}
	}
}

func TestHeadsShareNothing(t *testing.T) {
	x := someHeads[4]
	first, _, _ := impl.HeadAt(x.s, 0)
	second, _, _ := impl.HeadAt(x.s, 0)
	for i := range first.Ents[:cap(first.Ents)] {
		first.Ents[:cap(first.Ents)][i] = ent("written", "w")
	}
	for i := range first.Defs[:cap(first.Defs)] {
		first.Defs[:cap(first.Defs)][i] = valDef("written", "w", "w")
	}
	if !sameHead(second, x.h) {
		t.Errorf("two answers share memory: %+v", second)
	}
	// What was refused leaves nothing behind.
	wantNoHeadAt(t, within("<!ENTITY e 'x'><!ATTLIST a b ID #IMPLIED><!ENTITY f '&nope;'>"), 0)
	wantNoHeadAt(t, within("<!ENTITY g '&e;'>"), 0)
	wantHeadAt(t, within("<!ATTLIST a b ID #IMPLIED>"), 0, head(idDef("a", "b")), len(within("<!ATTLIST a b ID #IMPLIED>")))
	wantHeadAt(t, x.s, 0, x.h, len(x.s))
}

// What stands for something in a head stands for it in what comes behind, too.
func TestEntsOfHeadsAreRight(t *testing.T) {
	for _, x := range someHeads {
		h, next, ok := impl.HeadAt(x.s+"&lt;", 0)
		if !ok || !impl.EntsOk(h.Ents) {
			t.Errorf("HeadAt(%q) = %+v, %v", x.s, h, ok)
		}
		wantMarkAt(t, x.s+"&lt;", next, h.Ents, markText("<"), next+4)
		for _, e := range h.Ents {
			wantExpand(t, "&"+e.Name+";", h.Ents, e.Val)
		}
		for _, d := range h.Defs {
			if got, ok := impl.DefOf(h.Defs, d.El, d.At); got != d || !ok || !impl.TextOk(d.Val) || d.Id && d.Has {
				t.Errorf("DefOf(%+v, %q, %q) = %+v, %v", h.Defs, d.El, d.At, got, ok)
			}
		}
	}
}

func wantDef(t *testing.T, l []impl.Def, el string, at string, want impl.Def) {
	t.Helper()
	if got, ok := impl.DefOf(l, el, at); got != want || !ok {
		t.Errorf("DefOf(%+v, %q, %q) = %+v, %v; want %+v, true", l, el, at, got, ok, want)
	}
}

func wantNoDef(t *testing.T, l []impl.Def, el string, at string) {
	t.Helper()
	if got, ok := impl.DefOf(l, el, at); got != (impl.Def{}) || ok {
		t.Errorf("DefOf(%+v, %q, %q) = %+v, %v; want the zero one, false", l, el, at, got, ok)
	}
}

func TestDefOf(t *testing.T) {
	one := []impl.Def{valDef("a", "b", "x")}
	wantDef(t, one, "a", "b", one[0])
	for _, x := range [][2]string{{"a", "c"}, {"c", "b"}, {"b", "a"}, {"", ""}, {"a", ""}, {"", "b"}, {"A", "b"}, {"a", "B"}, {"p:a", "b"}, {"a", "p:b"}, {"ab", ""}, {"", "ab"}, {"a ", "b"}, {"a", "bb"}, {"\xff", "\x00"}} {
		wantNoDef(t, one, x[0], x[1])
		wantNoDef(t, nil, x[0], x[1])
		wantNoDef(t, []impl.Def{}, x[0], x[1])
	}
	// Several of which one has both, in each place.
	both := idDef("p:a", "q:b")
	others := []impl.Def{valDef("p:a", "b", "1"), implied("a", "q:b"), valDef("q:b", "p:a", "2"), idDef("p:a", "q:c")}
	wantNoDef(t, others, "p:a", "q:b")
	for i := range len(others) + 1 {
		l := slices.Insert(slices.Clone(others), i, both)
		wantDef(t, l, "p:a", "q:b", both)
		wantDef(t, l, "a", "q:b", others[1])
		wantDef(t, l, "q:b", "p:a", others[2])
		wantNoDef(t, l, "q:c", "p:a")
	}
	// The first of both, and all of it, whether the list is right or not.
	many := []impl.Def{implied("a", "c"), valDef("a", "b", "1"), idDef("a", "b"), valDef("a", "b", "2")}
	wantDef(t, many, "a", "b", many[1])
	wantDef(t, many[2:], "a", "b", many[2])
	wantDef(t, many[3:], "a", "b", many[3])
	strange := []impl.Def{{Val: "none"}, {El: "\xff", At: ":", Id: true, Has: true, Val: "\x00"}}
	wantDef(t, strange, "", "", strange[0])
	wantDef(t, strange, "\xff", ":", strange[1])
	long := append(slices.Repeat([]impl.Def{implied("a", "a")}, 1000), both)
	wantDef(t, long, "p:a", "q:b", both)
}

func TestDefOfLeavesItsListAlone(t *testing.T) {
	room := []impl.Def{valDef("a", "b", "1"), idDef("a", "c"), valDef("behind", "b", "2")}
	before := slices.Clone(room)
	l := room[:2]
	wantDef(t, l, "a", "b", before[0])
	wantDef(t, l, "a", "c", before[1])
	wantNoDef(t, l, "behind", "b")
	wantNoDef(t, l, "c", "a")
	if !slices.Equal(room, before) {
		t.Errorf("the list is %+v now", room)
	}
	got, _ := impl.DefOf(l, "a", "b")
	room[0] = valDef("written", "w", "w")
	if got != before[0] {
		t.Errorf("what was found hangs on the list: %+v", got)
	}
}
