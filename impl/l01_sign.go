package impl

import "unicode/utf8"

const (
	MaxText = 600
	MaxDoc  = 1500
)

// span is a range of numbers, both ends in it.
type span struct {
	low  int
	high int
}

var signSpans = []span{
	{9, 10},
	{13, 13},
	{32, 55295},
	{57344, 65533},
	{65536, 1114111},
}

var startSpans = []span{
	{'A', 'Z'},
	{'_', '_'},
	{'a', 'z'},
	{192, 214},
	{216, 246},
	{248, 767},
	{880, 893},
	{895, 8191},
	{8204, 8205},
	{8304, 8591},
	{11264, 12271},
	{12289, 55295},
	{63744, 64975},
	{65008, 65533},
	{65536, 983039},
}

// What may begin a name may stand in one, too; only the others are told here.
var partSpans = []span{
	{'-', '.'},
	{'0', '9'},
	{183, 183},
	{768, 879},
	{8255, 8256},
}

func (x span) holds(n int) bool {
	return x.low <= n && n <= x.high
}

func SignAt(s string, at int) (int, int, bool) {
	if at < 0 || at >= len(s) {
		return 0, 0, false
	}
	n, next := 0, len(s)
	for i, r := range s[at:] {
		if i > 0 {
			next = at + i
			break
		}
		n = int(r)
	}
	// A range has 65533 of broken bytes, too: what it had is right
	// only if that is written just so.
	if SignText(n) != s[at:next] {
		return 0, 0, false
	}
	return n, next, true
}

func SignText(n int) string {
	// The size is asked ahead of the conversion, which would cut a great number.
	if n < 0 || n > utf8.MaxRune || !utf8.ValidRune(rune(n)) {
		return ""
	}
	return string(rune(n))
}

func IsSign(n int) bool {
	for _, x := range signSpans {
		if x.holds(n) {
			return true
		}
	}
	return false
}

func IsStart(n int) bool {
	for _, x := range startSpans {
		if x.holds(n) {
			return true
		}
	}
	return false
}

func IsPart(n int) bool {
	for _, x := range partSpans {
		if x.holds(n) {
			return true
		}
	}
	return IsStart(n)
}

func IsBlank(n int) bool {
	return n == 9 || n == 10 || n == 13 || n == 32
}

func TextOk(s string) bool {
	return len(s) <= MaxText && allSigns(s)
}

// allSigns leaves the length to who asks: a text and a whole document have unlike limits.
func allSigns(s string) bool {
	if !utf8.ValidString(s) {
		return false
	}
	for _, r := range s {
		if !IsSign(int(r)) {
			return false
		}
	}
	return true
}

func AllBlank(s string) bool {
	for _, b := range []byte(s) {
		if !IsBlank(int(b)) {
			return false
		}
	}
	return s != ""
}
