package tests

import (
	"math"
	"strings"
	"testing"

	"loop.example/g00484/impl"
)

// Plain names of signs of one, two, three and four bytes, some of them of just MaxName bytes.
var plainNames = []string{
	"a", "Z", "_", "x1", "a-b.c", "_-._9", "lt", "xml", "xmlns",
	"\u00e9", "\u00c0\u00d6", "a\u00b7\u0300", "a\u203f\u2040", "\u2070\u218f", "\u200c\u200d", "\u3001\ud7ff", "\ufffd", "a\ufffd",
	"\U00010000", "\U000effff\U00010000", "a\u00e9\u3042\U00010000",
	"sixteenletters_x", "abcdefghijklmno9",
	strings.Repeat("\u00e9", 8), "abcdefghijklmn\u00e9", "abcdefghijklm\u3042", "abcdefghijkl\U00010000", strings.Repeat("\U00010000", 4),
}

// What is neither a plain name nor two with a `:` between.
var noNames = []string{
	"", ":", "::", "a:", ":a", "a::b", ":a:b", "a:b:", "a:b:c", "a:b:c:d",
	"1", "1a", "-a", ".a", "9", "\u00b7a", "\u0300a", "\u036fa", "\u203fa", "\u2040a",
	" ", "a ", " a", "a b", "a\tb", "a\nb", "a\r", "a/b", "a\x00", "\x00", "a;", "\u00d7", "a\u00f7", "a\u037e", "\U000f0000", "a\U000f0000",
	"\xff", "a\xff", "\xffa", "a\xc3", "\xc3", "a\xe3\x81", "a\xc1\xa1", "\xc1\xa1", "a\xed\xa0\x80", "a\xf4\x90\x80\x80", "a\x80b",
	"seventeenlettersx", "abcdefghijklmno\u00e9", "abcdefghijklmn\u3042", "abcdefghijklm\U00010000", strings.Repeat("\u00e9", 8) + "a", strings.Repeat("\U00010000", 5),
	"abcdefghijklmno\xc3", strings.Repeat("a", 1000),
}

func wantSplit(t *testing.T, s string, pre string, local string, ok bool) {
	t.Helper()
	gotPre, gotLocal, gotOk := impl.SplitName(s)
	if gotPre != pre || gotLocal != local || gotOk != ok {
		t.Errorf("SplitName(%q) = %q, %q, %v; want %q, %q, %v", s, gotPre, gotLocal, gotOk, pre, local, ok)
	}
}

func wantJoin(t *testing.T, pre string, local string, want string) {
	t.Helper()
	if got := impl.JoinName(pre, local); got != want {
		t.Errorf("JoinName(%q, %q) = %q, want %q", pre, local, got, want)
	}
}

func wantNameAt(t *testing.T, s string, at int, want string, next int) {
	t.Helper()
	if got, gotNext := impl.NameAt(s, at); got != want || gotNext != next {
		t.Errorf("NameAt(%q, %d) = %q, %d; want %q, %d", s, at, got, gotNext, want, next)
	}
}

func TestPlainNames(t *testing.T) {
	if impl.MaxName != 16 {
		t.Errorf("MaxName = %d", impl.MaxName)
	}
	for _, s := range plainNames {
		if !impl.PlainOk(s) {
			t.Errorf("PlainOk(%q) = false", s)
		}
		wantSplit(t, s, "", s, true)
		wantJoin(t, "", s, s)
	}
}

func TestNoNames(t *testing.T) {
	for _, s := range noNames {
		if impl.PlainOk(s) {
			t.Errorf("PlainOk(%q) = true", s)
		}
		wantSplit(t, s, "", "", false)
		wantJoin(t, "", s, "")
	}
}

func TestNamesWithAPartAhead(t *testing.T) {
	for _, pre := range plainNames {
		for _, local := range plainNames {
			s := pre + ":" + local
			if impl.PlainOk(s) {
				t.Errorf("PlainOk(%q) = true", s)
			}
			wantSplit(t, s, pre, local, true)
			wantJoin(t, pre, local, s)
			wantJoin(t, "", s, "")
			wantJoin(t, s, local, "")
			wantJoin(t, pre, s, "")
		}
	}
}

func TestAWrongPartMakesAWrongName(t *testing.T) {
	for _, wrong := range noNames {
		for _, s := range plainNames {
			wantSplit(t, wrong+":"+s, "", "", false)
			wantSplit(t, s+":"+wrong, "", "", false)
			wantJoin(t, s, wrong, "")
			if wrong != "" {
				wantJoin(t, wrong, s, "")
			}
		}
		for _, other := range noNames {
			wantSplit(t, wrong+":"+other, "", "", false)
			wantJoin(t, wrong, other, "")
		}
	}
}

func TestAPartThatIsEmpty(t *testing.T) {
	wantSplit(t, "", "", "", false)
	wantSplit(t, ":", "", "", false)
	wantSplit(t, ":a", "", "", false)
	wantSplit(t, "a:", "", "", false)
	wantJoin(t, "", "", "")
	wantJoin(t, "p", "", "")
	wantJoin(t, "", "a", "a")
	wantJoin(t, "", ":a", "")
	wantJoin(t, ":", "a", "")
}

func TestPartsOfMaxNameBytes(t *testing.T) {
	just := strings.Repeat("a", impl.MaxName)
	wantSplit(t, just+":"+just, just, just, true)
	wantJoin(t, just, just, just+":"+just)
	wantSplit(t, just+":b", just, "b", true)
	wantSplit(t, "b:"+just, "b", just, true)
	wantSplit(t, just+"a:b", "", "", false)
	wantSplit(t, "b:"+just+"a", "", "", false)
	wantJoin(t, just+"a", "b", "")
	wantJoin(t, "b", just+"a", "")
	for _, sign := range []string{"\u00e9", "\u3042", "\U00010000"} {
		full := strings.Repeat("a", impl.MaxName-len(sign)) + sign
		if !impl.PlainOk(full) || impl.PlainOk("a"+full) {
			t.Errorf("PlainOk where %q is the last sign", sign)
		}
		wantSplit(t, full+":"+full, full, full, true)
		wantSplit(t, "a"+full+":a", "", "", false)
		wantSplit(t, "a:a"+full, "", "", false)
	}
}

// Whichever sign it is: what one that begins a name and one that stands in it are is chapter 1's matter alone.
func TestEachSignInAName(t *testing.T) {
	for n := 0; n <= lastSign; n++ {
		if isSurrogate(n) {
			continue
		}
		s := bytesOf(n)
		if impl.PlainOk(s) != impl.IsStart(n) {
			t.Fatalf("PlainOk(%q) of the sign %d = %v", s, n, impl.PlainOk(s))
		}
		if impl.PlainOk("a"+s) != impl.IsPart(n) || impl.PlainOk("a"+s+"b") != impl.IsPart(n) {
			t.Fatalf("PlainOk with the sign %d behind the first", n)
		}
		want, next := "", 1
		if impl.IsPart(n) || n == ':' {
			want, next = s, 1+len(s)
		}
		if got, gotNext := impl.NameAt("<"+s+" ", 1); got != want || gotNext != next {
			t.Fatalf("NameAt the sign %d = %q, %d", n, got, gotNext)
		}
	}
}

func TestANameIsItsParts(t *testing.T) {
	pieces := []string{"", "a", "b1", "-", "9", ":", " ", "\u00e9", "\ufffd", "\xff", "sixteenletters_x"}
	for _, first := range pieces {
		for _, second := range pieces {
			wantPartsBack(t, first, second)
			for _, third := range pieces {
				wantNameBack(t, first+second+third)
				wantPartsBack(t, first+second, third)
				wantPartsBack(t, first, second+third)
			}
		}
	}
}

func wantNameBack(t *testing.T, s string) {
	t.Helper()
	pre, local, ok := impl.SplitName(s)
	if ok && impl.JoinName(pre, local) != s {
		t.Errorf("%q does not come back of %q and %q", s, pre, local)
	}
	if !ok && (pre != "" || local != "") {
		t.Errorf("SplitName(%q) = %q, %q beside a false", s, pre, local)
	}
}

func wantPartsBack(t *testing.T, pre string, local string) {
	t.Helper()
	s := impl.JoinName(pre, local)
	fits := impl.PlainOk(local) && (pre == "" || impl.PlainOk(pre))
	if fits != (s != "") {
		t.Errorf("JoinName(%q, %q) = %q", pre, local, s)
	}
	if s != "" {
		wantSplit(t, s, pre, local, true)
	}
}

func TestNameAt(t *testing.T) {
	wantNameAt(t, "a", 0, "a", 1)
	wantNameAt(t, "p:a>", 0, "p:a", 3)
	wantNameAt(t, "<p:a-1 x", 1, "p:a-1", 6)
	wantNameAt(t, "<p:a-1 x", 3, "a-1", 6)
	wantNameAt(t, "<p:a-1 x", 5, "1", 6)
	wantNameAt(t, "<p:a-1 x", 7, "x", 8)
	wantNameAt(t, "a=\"b\"", 0, "a", 1)
	wantNameAt(t, "a=\"b\"", 3, "b", 4)
	wantNameAt(t, "\u00e9\u3042\U00010000/", 0, "\u00e9\u3042\U00010000", 9)
	wantNameAt(t, "\u00e9\u3042\U00010000/", 2, "\u3042\U00010000", 9)
	// It is not asked to be a name.
	wantNameAt(t, "-1.:: ", 0, "-1.::", 5)
	wantNameAt(t, ":", 0, ":", 1)
	long := strings.Repeat("abc:", 1000)
	wantNameAt(t, "<"+long+"<", 1, long, 4001)
}

func TestNameAtWhereThereIsNone(t *testing.T) {
	wantNameAt(t, "", 0, "", 0)
	wantNameAt(t, "abc", 3, "", 3)
	for _, at := range []int{-1, -3, 4, 5, 1000, math.MinInt, math.MaxInt, math.MinInt32, 1 << 32} {
		wantNameAt(t, "abc", at, "", at)
		wantNameAt(t, "", at, "", at)
	}
	for _, s := range []string{" a", "<a", "\ta", ";a", "/", "\x00a", "\u00d7a", "\xffa", "\x80", "\xc3", "\xe3\x81a", "\xc1\xa1", "\xed\xa0\x80"} {
		wantNameAt(t, s, 0, "", 0)
		wantNameAt(t, "b"+s, 1, "", 1)
		wantNameAt(t, "b"+s, 0, "b", 1)
	}
	for _, at := range []int{1, 3, 4, 6, 7, 8} {
		wantNameAt(t, "\u00e9\u3042\U00010000", at, "", at)
	}
}
