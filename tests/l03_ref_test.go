package tests

import (
	"fmt"
	"regexp"
	"slices"
	"strconv"
	"strings"
	"testing"

	"loop.example/g00484/impl"
)

var fixedRefs = map[string]string{"lt": "<", "gt": ">", "amp": "&", "apos": "'", "quot": "\""}

func wantExpand(t *testing.T, s string, l []impl.Ent, want string) {
	t.Helper()
	if got, ok := impl.Expand(s, l); got != want || !ok {
		t.Errorf("Expand(%q, %q) = %q, %v; want %q, true", s, l, got, ok, want)
	}
}

func wantNoExpand(t *testing.T, s string, l []impl.Ent) {
	t.Helper()
	if got, ok := impl.Expand(s, l); got != "" || ok {
		t.Errorf("Expand(%q, %q) = %q, %v; want nothing, false", s, l, got, ok)
	}
}

func wantEnts(t *testing.T, want bool, l ...impl.Ent) {
	t.Helper()
	if impl.EntsOk(l) != want {
		t.Errorf("EntsOk(%q) = %v", l, !want)
	}
	if want {
		wantExpand(t, "a", l, "a")
	} else {
		wantNoExpand(t, "a", l)
		wantNoExpand(t, "", l)
	}
}

func TestEntsOk(t *testing.T) {
	if impl.MaxEnts != 4 {
		t.Errorf("MaxEnts = %d", impl.MaxEnts)
	}
	wantEnts(t, true)
	wantEnts(t, true, impl.Ent{Name: "e", Val: "v"})
	wantEnts(t, true, impl.Ent{Name: "e"})
	wantEnts(t, true, impl.Ent{Name: "e", Val: "x&y"})
	wantEnts(t, true, impl.Ent{Name: "e", Val: "&e;<>\"'\t\n\r"})
	wantEnts(t, true, impl.Ent{Name: "e", Val: "same"}, impl.Ent{Name: "f", Val: "same"})
	wantEnts(t, true, impl.Ent{Name: "e"}, impl.Ent{Name: "E"})
	wantEnts(t, true, impl.Ent{Name: "b"}, impl.Ent{Name: "a"})
	if !impl.EntsOk(nil) || !impl.EntsOk([]impl.Ent{}) {
		t.Error("a list of none is not right")
	}
}

func TestEntsOkOfNames(t *testing.T) {
	for _, s := range plainNames {
		_, fixed := fixedRefs[s]
		wantEnts(t, !fixed, impl.Ent{Name: s, Val: "v"})
	}
	for _, s := range noNames {
		wantEnts(t, false, impl.Ent{Name: s, Val: "v"})
		wantEnts(t, false, impl.Ent{Name: "a", Val: "v"}, impl.Ent{Name: s, Val: "v"})
	}
	for _, s := range []string{"p:q", "#x41", "#65", "#", "&", "&e;", "e;", "x41;"} {
		wantEnts(t, false, impl.Ent{Name: s, Val: "v"})
	}
}

func TestEntsOkOfTheFiveNames(t *testing.T) {
	for name, val := range fixedRefs {
		wantEnts(t, false, impl.Ent{Name: name})
		wantEnts(t, false, impl.Ent{Name: name, Val: val})
		wantEnts(t, false, impl.Ent{Name: "a"}, impl.Ent{Name: name, Val: val})
		wantEnts(t, false, impl.Ent{Name: name, Val: val}, impl.Ent{Name: "a"})
		wantEnts(t, true, impl.Ent{Name: strings.ToUpper(name)}, impl.Ent{Name: name + "1"}, impl.Ent{Name: "_" + name})
	}
}

func TestEntsOkOfUnlikeNames(t *testing.T) {
	names := []string{"a", "b", "c", "d"}
	for i := range names {
		for j := range i {
			l := entsOf(names...)
			l[i].Name = l[j].Name
			wantEnts(t, false, l...)
			l[i].Val = "another"
			wantEnts(t, false, l...)
		}
	}
	wantEnts(t, false, impl.Ent{Name: "a"}, impl.Ent{Name: "a"})
	wantEnts(t, false, impl.Ent{Name: "a"}, impl.Ent{Name: "a"}, impl.Ent{Name: "a"})
}

func entsOf(names ...string) []impl.Ent {
	var l []impl.Ent
	for _, s := range names {
		l = append(l, impl.Ent{Name: s, Val: "of " + s})
	}
	return l
}

func TestEntsOkOfMaxEnts(t *testing.T) {
	wantEnts(t, true, entsOf("a", "b", "c")...)
	wantEnts(t, true, entsOf("a", "b", "c", "d")...)
	wantEnts(t, false, entsOf("a", "b", "c", "d", "e")...)
	wantEnts(t, false, make([]impl.Ent, 1000)...)
	var many []impl.Ent
	for i := range 1000 {
		many = append(many, impl.Ent{Name: "n" + strconv.Itoa(i)})
	}
	wantEnts(t, false, many...)
}

func TestEntsOkOfWhatTheyStandFor(t *testing.T) {
	just := strings.Repeat("v", impl.MaxText)
	wantEnts(t, true, impl.Ent{Name: "e", Val: just})
	wantEnts(t, false, impl.Ent{Name: "e", Val: just + "v"})
	for _, s := range []string{"\x00", "a\x01", "\x0b", "\uFFFE", "\uFFFF", "\xff", "\xc3", "\xed\xa0\x80", "\xc1\xa1"} {
		wantEnts(t, false, impl.Ent{Name: "e", Val: s})
		wantEnts(t, false, impl.Ent{Name: "a"}, impl.Ent{Name: "e", Val: "v" + s + "v"})
	}
}

func TestExpandWhereNothingStandsForSomething(t *testing.T) {
	for _, s := range []string{"", "a", ";", "#65;", "lt;", "e", "<a b='c'>\"</a>", "\t\n\r ", "]]>", "\u00e9\u3042\U00010000", "\uFFFD"} {
		wantExpand(t, s, nil, s)
		wantExpand(t, s, entsOf("a", "e"), s)
	}
}

func TestExpandOfTheFive(t *testing.T) {
	for name, val := range fixedRefs {
		ref := "&" + name + ";"
		for _, l := range [][]impl.Ent{nil, {}, entsOf("a", "e")} {
			wantExpand(t, ref, l, val)
			wantExpand(t, "a"+ref+"b", l, "a"+val+"b")
			wantExpand(t, ref+ref, l, val+val)
			wantExpand(t, ";"+ref+";", l, ";"+val+";")
		}
		for _, s := range []string{"&" + name, "& " + name + ";", "&" + name + " ;", "&" + strings.ToUpper(name) + ";", "&" + name[1:] + ";", "&" + name + "x;", "&&" + name + ";", "&" + name + ref, "&#" + name + ";"} {
			wantNoExpand(t, s, nil)
		}
	}
	wantExpand(t, "&lt;&gt;&amp;&apos;&quot;", nil, "<>&'\"")
	// What comes is not looked at again.
	wantExpand(t, "&amp;lt;", nil, "&lt;")
	wantExpand(t, "&amp;amp;", nil, "&amp;")
	wantExpand(t, "&amp;#65;", nil, "&#65;")
	wantExpand(t, "&#38;lt;&#x26;lt;", nil, "&lt;&lt;")
}

func TestExpandOfNames(t *testing.T) {
	l := []impl.Ent{{Name: "e", Val: "x&y"}, {Name: "none"}, {Name: "\u00e9-1", Val: "\U00010000"}, {Name: "sixteenletters_x", Val: "&lt;&e;<"}}
	wantExpand(t, "&e;", l, "x&y")
	wantExpand(t, "&none;", l, "")
	wantExpand(t, "a&none;b&none;", l, "ab")
	wantExpand(t, "&\u00e9-1;", l, "\U00010000")
	wantExpand(t, "&sixteenletters_x;", l, "&lt;&e;<")
	wantExpand(t, "&e;&none;&\u00e9-1;&sixteenletters_x;&e;", l, "x&y\U00010000&lt;&e;<x&y")
	wantExpand(t, "1&e;2&lt;3&#65;4&#x42;5&\u00e9-1;6", l, "1x&y2<3A4B5\U000100006")
	for _, s := range []string{"&e", "&E;", "&ee;", "&e ;", "& e;", "&e:e;", "&p:e;", "&nope;", "&non;", "&sixteenletters_;", "&sixteenletters_xx;", "&\u00e9-;", "&1;", "&-;", "&e&e;", "&e&none;;", "&;e;"} {
		wantNoExpand(t, s, l)
		wantNoExpand(t, "&e;"+s, l)
	}
	wantNoExpand(t, "&e;", nil)
	for i := range l {
		wantNoExpand(t, "&"+l[i].Name+";", slices.Delete(slices.Clone(l), i, i+1))
	}
}

func TestExpandOfEachSign(t *testing.T) {
	for n := 0; n <= lastSign+2; n++ {
		want, may := "", impl.IsSign(n)
		if may {
			want = bytesOf(n)
		}
		for _, form := range []string{"&#%d;", "&#x%x;", "&#x%X;"} {
			s := fmt.Sprintf(form, n)
			if got, ok := impl.Expand(s, nil); got != want || ok != may {
				t.Fatalf("Expand(%q) = %q, %v; want %q, %v", s, got, ok, want, may)
			}
		}
	}
}

func TestExpandOfSignsThatMayNotStand(t *testing.T) {
	// Each pair has one that may not, and one beside it that may.
	for _, x := range [][2]int{{8, 9}, {11, 10}, {12, 13}, {14, 13}, {31, 32}, {55296, 55295}, {57343, 57344}, {65534, 65533}, {65535, 65536}, {1114112, 1114111}} {
		for _, form := range []string{"&#%d;", "&#%07d;", "&#x%x;", "&#x%X;", "&#x%06x;"} {
			wantNoExpand(t, fmt.Sprintf(form, x[0]), nil)
			wantNoExpand(t, "a"+fmt.Sprintf(form, x[0])+"b", nil)
			wantExpand(t, fmt.Sprintf(form, x[1]), nil, bytesOf(x[1]))
		}
	}
	for _, s := range []string{"&#0;", "&#0000000;", "&#x0;", "&#x000000;", "&#1;", "&#56320;", "&#xDBFF;", "&#xdc00;", "&#9999999;", "&#x110000;", "&#xffffff;", "&#xFFFFFF;"} {
		wantNoExpand(t, s, nil)
	}
}

func TestExpandOfHowManyDigits(t *testing.T) {
	for zeros := range 40 {
		ten, sixteen := "&#"+strings.Repeat("0", zeros)+"65;", "&#x"+strings.Repeat("0", zeros)+"4a;"
		if zeros+2 <= 7 {
			wantExpand(t, ten, nil, "A")
		} else {
			wantNoExpand(t, ten, nil)
		}
		if zeros+2 <= 6 {
			wantExpand(t, sixteen, nil, "J")
		} else {
			wantNoExpand(t, sixteen, nil)
		}
	}
	wantExpand(t, "&#1114111;&#0000009;", nil, "\U0010ffff\t")
	wantExpand(t, "&#x10ffff;&#x10FFFF;&#x10fFfF;&#x00000d;&#x00000D;", nil, "\U0010ffff\U0010ffff\U0010ffff\r\r")
	wantNoExpand(t, "&#01114111;", nil)
	wantNoExpand(t, "&#x010ffff;", nil)
	// These would be 65 of a number of 32 and of 64 bits.
	wantNoExpand(t, "&#4294967361;", nil)
	wantNoExpand(t, "&#18446744073709551681;", nil)
	wantNoExpand(t, "&#x10000000000000041;", nil)
}

func TestExpandOfWrongDigits(t *testing.T) {
	for _, s := range []string{
		"&#;", "&#x;", "&#X41;", "&41;", "&#4a;", "&#a;", "&#xg;", "&#xG1;", "&#x 41;", "&# 65;", "&#65 ;", "&#+65;", "&#-65;", "&#x+41;", "&#x-41;",
		"&#6_5;", "&#x4_1;", "&#_65;", "&#0x41;", "&#x0x41;", "&#xx41;", "&##65;", "&#6.5;", "&#65.;", "&#1e2;", "&#0b1000001;", "&#0o101;",
		"&#\u0666\u0665;", "&#x\uff14\uff11;", "&#65", "&#x41", "&#", "&#x", "&#65&#65;", "&#/5;", "&#6:;", "&#x4/;", "&#x4:;", "&#x4@;", "&#x4`;",
	} {
		wantNoExpand(t, s, nil)
		wantNoExpand(t, "a"+s+"b", entsOf("x", "x41", "a"))
	}
}

func TestExpandOfWhatBeginsNothing(t *testing.T) {
	for _, s := range []string{"&", "a&", "&&", "& ", "&;", "&;;", "a & b", "&lt;&", "&amp", "&amp&amp;", "&\n;", "&<;", "&&amp;", "&e"} {
		wantNoExpand(t, s, nil)
		wantNoExpand(t, s, entsOf("e", "b"))
		wantNoExpand(t, s+"b", entsOf("e", "b"))
	}
}

func TestExpandOfWrongSigns(t *testing.T) {
	for _, s := range []string{"\x00", "\x08", "\x0b", "\x1f", "\uFFFE", "\uFFFF", "\xff", "\x80", "\xc3", "\xe3\x81", "\xc1\xa1", "\xed\xa0\x80", "\xf4\x90\x80\x80"} {
		for _, x := range []string{s, "a" + s, s + "a", "&lt;" + s, s + "&lt;", "&" + s + ";", "&e" + s + ";"} {
			wantNoExpand(t, x, nil)
			wantNoExpand(t, x, entsOf("e"))
		}
	}
}

// Bytes that only come to be a sign where nothing is put between them are none in s.
func TestExpandMakesNoSignsOfPieces(t *testing.T) {
	l := []impl.Ent{{Name: "none"}}
	for _, s := range []string{"\u00e9", "\u3042", "\U00010000"} {
		for i := 1; i < len(s); i++ {
			wantNoExpand(t, s[:i]+"&none;"+s[i:], l)
		}
		wantExpand(t, "&none;"+s+"&none;", l, s)
	}
}

func TestExpandOfAListThatIsNotRight(t *testing.T) {
	for _, l := range [][]impl.Ent{
		entsOf("a", "b", "c", "d", "e"),
		entsOf("e", "e"),
		entsOf("e", "lt"),
		entsOf("e", ""),
		entsOf("e", "p:q"),
		{{Name: "e", Val: "\x00"}},
		{{Name: "e", Val: strings.Repeat("v", impl.MaxText+1)}},
	} {
		for _, s := range []string{"", "a", "&lt;", "&#65;", "&e;", "&nope;"} {
			wantNoExpand(t, s, l)
		}
	}
}

func TestExpandOfMaxDoc(t *testing.T) {
	for _, piece := range []string{"&lt;&gt;", "&#65;", "&#0065;", "&#x000041;", "&\u00e9v;&quot;"} {
		l := []impl.Ent{{Name: "\u00e9v", Val: "w"}}
		// Blanks fill it up, which stand for themselves.
		just := strings.Repeat(piece, impl.MaxDoc/len(piece))
		just += strings.Repeat(" ", impl.MaxDoc-len(just))
		got, ok := impl.Expand(just, l)
		if wantRefs, wantOk := plainExpand(just, l); len(just) != impl.MaxDoc || !ok || !wantOk || got != wantRefs {
			t.Errorf("Expand of just MaxDoc bytes of %q = %q, %v", piece, got, ok)
		}
		wantNoExpand(t, just+"a", l)
		wantNoExpand(t, "a"+just, l)
		wantNoExpand(t, just+piece, l)
	}
	wantNoExpand(t, strings.Repeat("a", impl.MaxDoc), nil)
	wantNoExpand(t, strings.Repeat("&none;", impl.MaxDoc/6+1), []impl.Ent{{Name: "none"}})
	wantExpand(t, strings.Repeat("&none;", impl.MaxDoc/6), []impl.Ent{{Name: "none"}}, "")
}

func TestExpandToMaxText(t *testing.T) {
	l := []impl.Ent{{Name: "all", Val: strings.Repeat("v", impl.MaxText)}, {Name: "half", Val: strings.Repeat("\u00e9", impl.MaxText/4)}, {Name: "none"}}
	plain := strings.Repeat("a", impl.MaxText)
	wantExpand(t, plain, l, plain)
	wantNoExpand(t, plain+"a", l)
	wantExpand(t, "&all;", l, l[0].Val)
	wantExpand(t, "&none;&all;&none;", l, l[0].Val)
	wantNoExpand(t, "&all;a", l)
	wantNoExpand(t, "a&all;", l)
	wantNoExpand(t, "&all;&lt;", l)
	wantExpand(t, "&half;&half;", l, l[1].Val+l[1].Val)
	wantNoExpand(t, "&half;a&half;", l)
	wantExpand(t, plain[2:]+"&#233;", l, plain[2:]+"\u00e9")
	wantNoExpand(t, plain[1:]+"&#233;", l)
	wantExpand(t, plain[4:]+"&#x10000;", l, plain[4:]+"\U00010000")
	wantNoExpand(t, plain[3:]+"&#x10000;", l)
	wantNoExpand(t, strings.Repeat("&all;", impl.MaxDoc/5), l)
	// The limit is of what comes, not of what it comes of.
	wantExpand(t, plain[1:]+"&amp;", l, plain[1:]+"&")
}

var refForm = regexp.MustCompile(`&[^&;]*;?`)
var numberForm = regexp.MustCompile(`^&#(?:([0-9]{1,7})|x([0-9A-Fa-f]{1,6}));$`)

// plainExpand is another way to the same, of a list that is right.
func plainExpand(s string, l []impl.Ent) (string, bool) {
	ok := true
	x := refForm.ReplaceAllStringFunc(s, func(ref string) string {
		for name, val := range fixedRefs {
			if ref == "&"+name+";" {
				return val
			}
		}
		for _, e := range l {
			if ref == "&"+e.Name+";" {
				return e.Val
			}
		}
		found := numberForm.FindStringSubmatch(ref)
		if found == nil {
			ok = false
			return ""
		}
		n, _ := strconv.Atoi("0" + found[1])
		if found[2] != "" {
			n64, _ := strconv.ParseInt(found[2], 16, 64)
			n = int(n64)
		}
		ok = ok && impl.IsSign(n)
		return string(rune(n))
	})
	if !ok || !impl.TextOk(x) {
		return "", false
	}
	return x, true
}

func TestExpandAnotherWay(t *testing.T) {
	l := []impl.Ent{{Name: "e", Val: "x&y;"}, {Name: "x6", Val: ""}}
	pieces := []string{"&", "#", "x", "6", "5", ";", "e", "&lt;", "\u00e9", "A"}
	for length, texts := 0, []string{""}; length <= 6; length++ {
		var more []string
		for _, s := range texts {
			want, wantOk := plainExpand(s, l)
			if got, ok := impl.Expand(s, l); got != want || ok != wantOk {
				t.Fatalf("Expand(%q) = %q, %v; want %q, %v", s, got, ok, want, wantOk)
			}
			// Long ones are only of use where a `&` is first.
			if !strings.HasPrefix(s, "&") && length > 2 {
				continue
			}
			for _, p := range pieces {
				more = append(more, s+p)
			}
		}
		texts = more
	}
}

func TestExpandLeavesItsListAlone(t *testing.T) {
	room := append(entsOf("e", "f", "g"), impl.Ent{Name: "behind", Val: "v"})
	before := slices.Clone(room)
	l := room[:2]
	wantExpand(t, "&e;&f;", l, "of eof f")
	wantNoExpand(t, "&g;", l)
	wantNoExpand(t, "&behind;", l)
	if !impl.EntsOk(l) || !slices.Equal(room, before) {
		t.Errorf("the list is %q now", room)
	}
	// Nothing is kept: neither what one list had nor what was deleted.
	wantNoExpand(t, "&e;", entsOf("f"))
	wantExpand(t, "&lt;&e;", entsOf("e"), "<of e")
}

func escOf(s string, what map[byte]string) string {
	var out []byte
	for i := range len(s) {
		if x, ok := what[s[i]]; ok {
			out = append(out, x...)
		} else {
			out = append(out, s[i])
		}
	}
	return string(out)
}

var (
	textEsc = map[byte]string{'&': "&amp;", '<': "&lt;", '>': "&gt;", 13: "&#13;"}
	attrEsc = map[byte]string{'&': "&amp;", '<': "&lt;", '>': "&gt;", 13: "&#13;", '"': "&quot;", 9: "&#9;", 10: "&#10;"}
)

func wantEsc(t *testing.T, s string) {
	t.Helper()
	if got, want := impl.EscText(s), escOf(s, textEsc); got != want {
		t.Errorf("EscText(%q) = %q, want %q", s, got, want)
	}
	if got, want := impl.EscAttr(s), escOf(s, attrEsc); got != want {
		t.Errorf("EscAttr(%q) = %q, want %q", s, got, want)
	}
}

func TestEscOfEachByte(t *testing.T) {
	wantEsc(t, "")
	for b := range 256 {
		one := string([]byte{byte(b)})
		for _, s := range []string{one, one + one, "a" + one, one + "a", "&" + one, one + "<", "\"" + one + "\r\n"} {
			wantEsc(t, s)
		}
	}
}

func TestEsc(t *testing.T) {
	for s, want := range map[string][2]string{
		"":                {"", ""},
		"plain":           {"plain", "plain"},
		"a<b>&\"'":        {"a&lt;b&gt;&amp;\"'", "a&lt;b&gt;&amp;&quot;'"},
		"\t\n\r ":         {"\t\n&#13; ", "&#9;&#10;&#13; "},
		"\r\n":            {"&#13;\n", "&#13;&#10;"},
		"&lt;":            {"&amp;lt;", "&amp;lt;"},
		"&amp;":           {"&amp;amp;", "&amp;amp;"},
		"]]>":             {"]]&gt;", "]]&gt;"},
		"\u00e9<\u3042":   {"\u00e9&lt;\u3042", "\u00e9&lt;\u3042"},
		"\xff<\xc3\"\x00": {"\xff&lt;\xc3\"\x00", "\xff&lt;\xc3&quot;\x00"},
	} {
		if impl.EscText(s) != want[0] || impl.EscAttr(s) != want[1] {
			t.Errorf("%q is escaped as %q, %q", s, impl.EscText(s), impl.EscAttr(s))
		}
	}
	// These have no limit of their own.
	wantEsc(t, strings.Repeat("&<>\"\r\n\ta", 5000))
}

func wantItself(t *testing.T, s string, l []impl.Ent) {
	t.Helper()
	for _, x := range []string{impl.EscText(s), impl.EscAttr(s)} {
		if impl.TextOk(s) && len(x) <= impl.MaxDoc {
			wantExpand(t, x, l, s)
		} else {
			wantNoExpand(t, x, l)
		}
		if strings.ContainsAny(x, "<>\r") {
			t.Errorf("%q stands in the open in %q", s, x)
		}
	}
}

func TestWhatIsEscapedStandsForItself(t *testing.T) {
	l := []impl.Ent{{Name: "e", Val: "v"}, {Name: "x41", Val: "&"}}
	pieces := []string{"&", "<", ">", "\"", "'", "\t", "\n", "\r", " ", ";", "#", "x41", "e", "amp;", "\u00e9", "\U00010000", "\x01", "\xff"}
	for _, a := range pieces {
		for _, b := range pieces {
			for _, c := range pieces {
				wantItself(t, a+b+c, l)
				wantItself(t, a+b+c, nil)
			}
		}
	}
}

func TestEachSignThatIsEscapedStandsForItself(t *testing.T) {
	// Many at a time, as it would take long one by one.
	all := ""
	for n := 0; n <= lastSign; n++ {
		if impl.IsSign(n) {
			all += bytesOf(n)
		}
		if len(all) > impl.MaxText-4 || n == lastSign {
			wantItself(t, all, nil)
			all = ""
		}
	}
}

// Each length of each sign, also where what is escaped is just MaxDoc bytes, and where it is more.
func TestWhatIsEscapedAndLong(t *testing.T) {
	for _, sign := range []string{"&", "<", ">", "\"", "\t", "\n", "\r", "a", "\u00e9"} {
		for n := range impl.MaxText/len(sign) + 2 {
			wantItself(t, strings.Repeat(sign, n), nil)
			wantItself(t, strings.Repeat(sign, n)+"a", nil)
		}
	}
	quotes := strings.Repeat("\"", impl.MaxDoc/6)
	wantExpand(t, impl.EscAttr(quotes), nil, quotes)
	wantNoExpand(t, impl.EscAttr(quotes)+"a", nil)
}

func TestNorm(t *testing.T) {
	for s, want := range map[string]string{
		"":                     "",
		"ab":                   "ab",
		"a\nb":                 "a\nb",
		"a\rb":                 "a\nb",
		"a\r\nb":               "a\nb",
		"a\n\rb":               "a\n\nb",
		"\r":                   "\n",
		"\n":                   "\n",
		"\r\n":                 "\n",
		"a\r":                  "a\n",
		"a\r\n":                "a\n",
		"\r\r":                 "\n\n",
		"a\r\rb":               "a\n\nb",
		"a\r\r\nb":             "a\n\nb",
		"a\r\n\rb":             "a\n\nb",
		"\r\n\r\n":             "\n\n",
		"\n\r\n":               "\n\n",
		"&#13;\r&#10;":         "&#13;\n&#10;",
		"\xff\r\xc3\r\n\x00":   "\xff\n\xc3\n\x00",
		"\u00e9\r\u0085\u2028": "\u00e9\n\u0085\u2028",
	} {
		if got := impl.Norm(s); got != want {
			t.Errorf("Norm(%q) = %q, want %q", s, got, want)
		}
	}
}

func normOf(s string) string {
	var out []byte
	for i := range len(s) {
		switch {
		case s[i] != 13:
			out = append(out, s[i])
		case i+1 == len(s) || s[i+1] != 10:
			out = append(out, 10)
		}
	}
	return string(out)
}

func TestNormByteByByte(t *testing.T) {
	for length, texts := 0, []string{""}; length <= 8; length++ {
		var more []string
		for _, s := range texts {
			if got, want := impl.Norm(s), normOf(s); got != want || impl.Norm(got) != got {
				t.Fatalf("Norm(%q) = %q, want %q", s, got, want)
			}
			more = append(more, s+"\r", s+"\n", s+"a")
		}
		texts = more
	}
	for b := range 256 {
		s := string([]byte{byte(b), 13, byte(b), 10, byte(b)})
		if got, want := impl.Norm(s), normOf(s); got != want {
			t.Errorf("Norm(%q) = %q, want %q", s, got, want)
		}
	}
	if got := impl.Norm(strings.Repeat("a\r\n", 5000)); got != strings.Repeat("a\n", 5000) {
		t.Error("Norm of a long text")
	}
}
