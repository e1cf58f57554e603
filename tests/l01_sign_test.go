package tests

import (
	"math"
	"slices"
	"strings"
	"testing"

	"loop.example/g00484/impl"
)

const lastSign = 1114111

// bytesOf writes a sign by bits alone, so that the program is held against something else than the library.
func bytesOf(n int) string {
	switch {
	case n < 0x80:
		return string([]byte{byte(n)})
	case n < 0x800:
		return string([]byte{byte(0xc0 | n>>6), byte(0x80 | n&63)})
	case n < 0x10000:
		return string([]byte{byte(0xe0 | n>>12), byte(0x80 | n>>6&63), byte(0x80 | n&63)})
	}
	return string([]byte{byte(0xf0 | n>>18), byte(0x80 | n>>12&63), byte(0x80 | n>>6&63), byte(0x80 | n&63)})
}

func isSurrogate(n int) bool {
	return 55296 <= n && n <= 57343
}

func wantSign(t *testing.T, s string, at int, n int, next int) {
	t.Helper()
	gotN, gotNext, ok := impl.SignAt(s, at)
	if gotN != n || gotNext != next || !ok {
		t.Errorf("SignAt(%q, %d) = %d, %d, %v; want %d, %d, true", s, at, gotN, gotNext, ok, n, next)
	}
}

func wantNoSign(t *testing.T, s string, at int) {
	t.Helper()
	n, next, ok := impl.SignAt(s, at)
	if n != 0 || next != 0 || ok {
		t.Errorf("SignAt(%q, %d) = %d, %d, %v; want 0, 0, false", s, at, n, next, ok)
	}
}

func TestSignAtOneBehindTheOther(t *testing.T) {
	s := "a\u00e9\u20ac\U0001f600\x00z"
	at := 0
	for _, n := range []int{97, 233, 8364, 128512, 0, 122} {
		next := at + len(bytesOf(n))
		wantSign(t, s, at, n, next)
		at = next
	}
	if at != len(s) {
		t.Errorf("the signs end at %d of %d", at, len(s))
	}
}

func TestSignAtEnds(t *testing.T) {
	for _, n := range []int{0, 127, 128, 2047, 2048, 55295, 57344, 65532, 65533, 65534, 65535, 65536, 1114111} {
		s := bytesOf(n)
		wantSign(t, s, 0, n, len(s))
		wantSign(t, s+"\xff", 0, n, len(s))
		wantSign(t, "\xff"+s, 1, n, 1+len(s))
		if got := impl.SignText(n); got != s {
			t.Errorf("SignText(%d) = %q, want %q", n, got, s)
		}
	}
}

func TestEachSignComesBack(t *testing.T) {
	for n := 0; n <= lastSign; n++ {
		s := impl.SignText(n)
		if isSurrogate(n) {
			if s != "" {
				t.Fatalf("SignText(%d) = %q", n, s)
			}
			continue
		}
		if s != bytesOf(n) {
			t.Fatalf("SignText(%d) = %q", n, s)
		}
		got, next, ok := impl.SignAt("<"+s+">", 1)
		if got != n || next != 1+len(s) || !ok {
			t.Fatalf("SignAt of %d = %d, %d, %v", n, got, next, ok)
		}
	}
}

func TestSignAtWrongPlaces(t *testing.T) {
	wantNoSign(t, "", 0)
	for _, at := range []int{-1, 3, 4, 1000, math.MinInt, math.MaxInt, math.MinInt32, 1 << 32} {
		wantNoSign(t, "abc", at)
		wantNoSign(t, "", at)
	}
	s := "\u00e9\u20ac\U0001f600"
	for _, at := range []int{1, 3, 4, 6, 7, 8} {
		wantNoSign(t, s, at)
	}
}

func TestSignAtWrongBytes(t *testing.T) {
	wrong := []string{
		"\x80", "\xbf", "\xfe", "\xff", "\xf8\x88\x80\x80\x80",
		"\xc0\x80", "\xc1\xbf", "\xe0\x80\x80", "\xe0\x9f\xbf", "\xf0\x80\x80\x80", "\xf0\x8f\xbf\xbf",
		"\xc3", "\xe2\x82", "\xe2", "\xf0\x9f\x98", "\xf0\x9f", "\xf0",
		"\xc3a", "\xe2\x82a", "\xe2a\x82", "\xf0\x9f\x98a", "\xc3\xc3",
		"\xed\xa0\x80", "\xed\xaf\xbf", "\xed\xb0\x80", "\xed\xbf\xbf",
		"\xf4\x90\x80\x80", "\xf5\x80\x80\x80", "\xf7\xbf\xbf\xbf",
	}
	for _, s := range wrong {
		wantNoSign(t, s, 0)
		wantNoSign(t, s+"abc", 0)
		wantNoSign(t, "\u00e9"+s, 2)
		if impl.TextOk(s) || impl.TextOk("a"+s+"b") {
			t.Errorf("TextOk with %q", s)
		}
	}
}

// The sign that a decoder has of broken bytes may also be written out, and then it is one.
func TestSignOfBrokenBytes(t *testing.T) {
	wantSign(t, "\uFFFD", 0, 65533, 3)
	wantSign(t, "\uFFFD\xff", 0, 65533, 3)
	wantNoSign(t, "\xff\uFFFD", 0)
	if !impl.TextOk("\uFFFD") || impl.TextOk("\uFFFD\xff") || impl.TextOk("\xef\xbf") {
		t.Error("TextOk of 65533")
	}
}

// Of all beginnings of these bytes just those are signs that are written so.
func TestSignAtHoldsToTheShortestForm(t *testing.T) {
	known := map[string]int{}
	for n := 0; n <= lastSign; n++ {
		if !isSurrogate(n) {
			known[bytesOf(n)] = n
		}
	}
	ends := []int{0, 0x7f, 0x80, 0xbf, 0xc0}
	for first := range 256 {
		for second := range 256 {
			for _, third := range ends {
				for _, fourth := range ends {
					checkBeginning(t, known, []byte{byte(first), byte(second), byte(third), byte(fourth)})
				}
			}
		}
		if t.Failed() {
			return
		}
	}
}

func checkBeginning(t *testing.T, known map[string]int, b []byte) {
	t.Helper()
	for l := 1; l <= len(b); l++ {
		if n, ok := known[string(b[:l])]; ok {
			wantSign(t, string(b), 0, n, l)
			return
		}
	}
	wantNoSign(t, string(b), 0)
}

func TestSignTextOfNone(t *testing.T) {
	for _, n := range []int{-1, -97, 55296, 56320, 57343, 1114112, 1 << 32, 1<<32 + 97, -1<<32 + 97, math.MinInt, math.MaxInt} {
		if s := impl.SignText(n); s != "" {
			t.Errorf("SignText(%d) = %q", n, s)
		}
	}
}

// Each list has where a range begins and where it is over, in turns.
var (
	signTurns  = []int{9, 11, 13, 14, 32, 55296, 57344, 65534, 65536, 1114112}
	startTurns = []int{65, 91, 95, 96, 97, 123, 192, 215, 216, 247, 248, 768, 880, 894, 895, 8192, 8204, 8206,
		8304, 8592, 11264, 12272, 12289, 55296, 63744, 64976, 65008, 65534, 65536, 983040}
	partTurns = []int{45, 47, 48, 58, 65, 91, 95, 96, 97, 123, 183, 184, 192, 215, 216, 247, 248, 894, 895, 8192,
		8204, 8206, 8255, 8257, 8304, 8592, 11264, 12272, 12289, 55296, 63744, 64976, 65008, 65534, 65536, 983040}
	blankTurns = []int{9, 11, 13, 14, 32, 33}
)

func TestWhichSigns(t *testing.T) {
	for _, x := range []struct {
		name  string
		is    func(int) bool
		turns []int
	}{
		{"IsSign", impl.IsSign, signTurns},
		{"IsStart", impl.IsStart, startTurns},
		{"IsPart", impl.IsPart, partTurns},
		{"IsBlank", impl.IsBlank, blankTurns},
	} {
		want := false
		for n := -300; n <= lastSign+300; n++ {
			if slices.Contains(x.turns, n) {
				want = !want
			}
			if x.is(n) != want {
				t.Errorf("%s(%d) = %v", x.name, n, !want)
			}
		}
		for _, n := range []int{-1, math.MinInt, math.MaxInt, math.MinInt32, math.MaxInt32, 1<<32 + 9, 1<<32 + 65, 9 - 1<<32, 65 - 1<<32, 1<<21 + 65} {
			if x.is(n) {
				t.Errorf("%s(%d) = true", x.name, n)
			}
		}
	}
}

func TestWhatBeginsANameMayStandInOne(t *testing.T) {
	for n := -1; n <= lastSign+1; n++ {
		if impl.IsStart(n) && !impl.IsPart(n) {
			t.Errorf("%d begins a name, and may not stand in one", n)
		}
		if impl.IsPart(n) && !impl.IsSign(n) {
			t.Errorf("%d stands in a name, and not in a text", n)
		}
	}
}

func TestTextOk(t *testing.T) {
	for _, s := range []string{"", "a", "\t\n\r ", "a\u00e9\u20ac\U0001f600", "\uD7FF\uE000\uFFFD", "\U00010000\U0010FFFF", "<&>]]>", "\x7f\u0080"} {
		if !impl.TextOk(s) {
			t.Errorf("TextOk(%q) = false", s)
		}
	}
	for _, s := range []string{"\x00", "\x08", "\x0b", "\x0c", "\x0e", "\x1f", "\uFFFE", "\uFFFF", "a\x01", "\x01a", "a\xff", "\xffa", "\xe2\x82", "\xed\xa0\x80"} {
		if impl.TextOk(s) || impl.TextOk("ab"+s+"cd") {
			t.Errorf("TextOk(%q) = true", s)
		}
	}
}

func TestTextOkHasALimitOfBytes(t *testing.T) {
	if impl.MaxText != 600 || impl.MaxDoc != 1500 {
		t.Errorf("MaxText = %d, MaxDoc = %d", impl.MaxText, impl.MaxDoc)
	}
	for _, sign := range []string{"a", "\n", "\u00e9", "\u20ac", "\U0001f600"} {
		just := strings.Repeat(sign, impl.MaxText/len(sign))
		if len(just) != impl.MaxText || !impl.TextOk(just) {
			t.Errorf("TextOk of just MaxText bytes of %q = false", sign)
		}
		if impl.TextOk(just+"a") || impl.TextOk("a"+just) || impl.TextOk(just+sign) {
			t.Errorf("TextOk of more than MaxText bytes of %q = true", sign)
		}
	}
	if impl.TextOk(strings.Repeat("a", impl.MaxText-1) + "\u00e9") {
		t.Error("a sign that goes past the limit is taken")
	}
	if impl.TextOk(strings.Repeat("a", impl.MaxText-1) + "\xc3") {
		t.Error("a sign that is cut off at the limit is taken")
	}
}

func TestAllBlank(t *testing.T) {
	if impl.AllBlank("") {
		t.Error("the empty text is blank")
	}
	for b := range 256 {
		want := b == 9 || b == 10 || b == 13 || b == 32
		one := string([]byte{byte(b)})
		for _, s := range []string{one, one + one, " " + one, one + "\t", "\n" + one + "\r"} {
			if impl.AllBlank(s) != want {
				t.Errorf("AllBlank(%q) = %v", s, !want)
			}
		}
	}
	for _, s := range []string{" \u00a0", "\u0085", "\u2003", " \u2028 ", "\xff", "a"} {
		if impl.AllBlank(s) {
			t.Errorf("AllBlank(%q) = true", s)
		}
	}
	if !impl.AllBlank(strings.Repeat(" \t\r\n", 1000)) {
		t.Error("a long blank text is not blank")
	}
}
