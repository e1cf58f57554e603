package tests

import (
	"fmt"
	"math"
	"reflect"
	"regexp"
	"slices"
	"strconv"
	"strings"
	"testing"
	"unicode/utf8"

	"loop.example/g00484/impl"
)

func sel(id string, steps ...impl.Step) impl.Sel {
	return impl.Sel{Id: id, Steps: steps}
}

// namedStep is a step of this kind; of the name the part ahead is its Pre.
func namedStep(kind int, name string, preds ...impl.Pred) impl.Step {
	pre, local := cutAtColon(name)
	return impl.Step{Kind: kind, Pre: pre, Local: local, Preds: preds}
}

func cutAtColon(name string) (string, string) {
	if pre, local, ok := strings.Cut(name, ":"); ok {
		return pre, local
	}
	return "", name
}

func elStep(name string, preds ...impl.Pred) impl.Step {
	return namedStep(impl.SlEl, name, preds...)
}

func anyStep(preds ...impl.Pred) impl.Step {
	return impl.Step{Kind: impl.SlAny, Preds: preds}
}

func textStep(preds ...impl.Pred) impl.Step {
	return impl.Step{Kind: impl.SlText, Preds: preds}
}

func noteStep(preds ...impl.Pred) impl.Step {
	return impl.Step{Kind: impl.SlNote, Preds: preds}
}

func toldStep(local string, preds ...impl.Pred) impl.Step {
	return impl.Step{Kind: impl.SlTold, Local: local, Preds: preds}
}

func attrStep(name string) impl.Step {
	return namedStep(impl.SlAttr, name)
}

func spaceStep(pre string) impl.Step {
	return impl.Step{Kind: impl.SlSpace, Local: pre}
}

func deep(x impl.Step) impl.Step {
	x.Deep = true
	return x
}

func nth(n int) impl.Pred {
	return impl.Pred{Kind: impl.PdNth, N: n}
}

func attrIs(name string, val string) impl.Pred {
	pre, local := cutAtColon(name)
	return impl.Pred{Kind: impl.PdAttr, Pre: pre, Local: local, Val: val}
}

func kidIs(name string, val string) impl.Pred {
	pre, local := cutAtColon(name)
	return impl.Pred{Kind: impl.PdKid, Pre: pre, Local: local, Val: val}
}

func selfIs(val string) impl.Pred {
	return impl.Pred{Kind: impl.PdSelf, Val: val}
}

// bareSel has no list that is shared, none that is empty, and nothing behind their ends.
func bareSel(x impl.Sel) impl.Sel {
	x.Steps = append([]impl.Step(nil), x.Steps...)
	for i := range x.Steps {
		x.Steps[i].Preds = append([]impl.Pred(nil), x.Steps[i].Preds...)
	}
	return x
}

func alikeSel(a impl.Sel, b impl.Sel) bool {
	return reflect.DeepEqual(bareSel(a), bareSel(b))
}

// wantParsed asks that s is read as x.
func wantParsed(t *testing.T, s string, x impl.Sel) {
	t.Helper()
	got, ok := impl.ParseSel(s)
	if !ok || !alikeSel(got, x) || !impl.SameSel(got, x) {
		t.Errorf("ParseSel(%q) = %+v, %v, want %+v", s, got, ok, x)
	}
}

// wantSel asks that x is right, that text is how it is written, and that x comes back of it, and of the other forms.
func wantSel(t *testing.T, x impl.Sel, text string, forms ...string) {
	t.Helper()
	if !impl.SelOk(x) {
		t.Errorf("SelOk(%+v) = false", x)
	}
	if got := impl.SelText(x); got != text {
		t.Errorf("SelText(%+v) = %q, want %q", x, got, text)
	}
	for _, s := range append(forms, text) {
		wantParsed(t, s, x)
	}
}

func wantNoSel(t *testing.T, forms ...string) {
	t.Helper()
	for _, s := range forms {
		if got, ok := impl.ParseSel(s); ok || !alikeSel(got, impl.Sel{}) {
			t.Errorf("ParseSel(%q) = %+v, %v", s, got, ok)
		}
	}
}

func wantWrongSel(t *testing.T, l ...impl.Sel) {
	t.Helper()
	for _, x := range l {
		if text := impl.SelText(x); impl.SelOk(x) || text != "" {
			t.Errorf("SelOk(%+v) = %v, SelText %q", x, impl.SelOk(x), text)
		}
	}
}

// wantRightSel asks only that x is right, however long its text.
func wantRightSel(t *testing.T, want bool, x impl.Sel) {
	t.Helper()
	if !want {
		wantWrongSel(t, x)
	} else if !impl.SelOk(x) {
		t.Errorf("SelOk(%+v) = false", x)
	}
}

func TestSelNumbers(t *testing.T) {
	got := []int{impl.SlEl, impl.SlAny, impl.SlText, impl.SlNote, impl.SlTold, impl.SlAttr, impl.SlSpace, impl.PdNth, impl.PdAttr, impl.PdKid, impl.PdSelf, impl.MaxSteps, impl.MaxPreds, impl.MaxSel}
	if !slices.Equal(got, []int{1, 2, 3, 4, 5, 6, 7, 1, 2, 3, 4, 8, 3, 200}) {
		t.Error(got)
	}
}

func TestSelsOfOneStep(t *testing.T) {
	wantSel(t, sel("", elStep("a")), "a", "/a")
	wantSel(t, sel("", elStep("p:a")), "p:a", "/p:a")
	wantSel(t, sel("", anyStep()), "*", "/*")
	wantSel(t, sel("", textStep()), "text()", "/text()")
	wantSel(t, sel("", noteStep()), "comment()", "/comment()")
	wantSel(t, sel("", toldStep("")), "processing-instruction()", "/processing-instruction()")
	wantSel(t, sel("", toldStep("t")), "processing-instruction('t')", "/processing-instruction(\"t\")")
	wantSel(t, sel("", attrStep("k")), "@k", "/@k")
	wantSel(t, sel("", attrStep("p:k")), "@p:k", "/@p:k")
	wantSel(t, sel("", spaceStep("p")), "namespace::p", "/namespace::p")
	for _, x := range []impl.Step{elStep("a"), elStep("p:a"), anyStep(), textStep(), noteStep(), toldStep(""), toldStep("t")} {
		text := impl.SelText(sel("", x))
		wantSel(t, sel("", deep(x)), "//"+text, " // "+text)
		wantSel(t, sel("i", deep(x)), "id('i')//"+text)
		wantSel(t, sel("i", x), "id('i')/"+text)
		wantNoSel(t, "///"+text, "/ /"+text, "/ //"+text, "// /"+text, text+"/", text+"//", "id('i')"+text, "id('i') "+text, "/id('i')/"+text, "//id('i')/"+text)
	}
	for _, x := range []impl.Step{attrStep("k"), attrStep("p:k"), spaceStep("p")} {
		text := impl.SelText(sel("", x))
		wantSel(t, sel("i", x), "id('i')/"+text)
		wantWrongSel(t, sel("", deep(x)), sel("i", deep(x)))
		wantNoSel(t, "//"+text, "id('i')//"+text, "///"+text, text+"/", "id('i')"+text)
	}
}

func TestSelsOfAnId(t *testing.T) {
	wantSel(t, sel("i"), "id('i')", "id(\"i\")", " id ( 'i' ) ")
	wantSel(t, sel("it's"), "id(\"it's\")")
	wantSel(t, sel("'"), "id(\"'\")")
	wantSel(t, sel("\""), "id('\"')")
	wantSel(t, sel(" i\t\n"), "id(' i\t\n')", "id(\" i\t\n\")")
	wantSel(t, sel("a/b[1]"), "id('a/b[1]')")
	wantSel(t, sel(")"), "id(')')")
	wantSel(t, sel("i", elStep("a"), deep(elStep("b"))), "id('i')/a//b")
	wantSel(t, sel("id('i')", elStep("a")), "id(\"id('i')\")/a")
	wantWrongSel(t, sel(""), sel("'\""), sel("x\"'y"), sel("'\"", elStep("a")))
	wantNoSel(t, "id('')", "id(\"\")", "id('')/a", "id('')//a", "id()", "id()/a", "id(i)", "id('i'", "id('i)", "id(i')", "id'i'", "id('i'))", "id(('i'))", "id('i','j')", "id('i' 'j')", "id('i')id('j')", "id('i')/id('j')", "id('i')[1]", "id('i')/", "id('i')//", "/id('i')", "//id('i')", "a/id('i')", "a[id('i')]", "Id('i')", "ids('i')", "i d('i')", "id:id('i')", "@id('i')")
}

func TestManySteps(t *testing.T) {
	wantSel(t, sel("", elStep("a"), elStep("b")), "a/b", "/a/b")
	wantSel(t, sel("", deep(elStep("a")), elStep("b")), "//a/b")
	wantSel(t, sel("", elStep("a"), deep(elStep("b")), elStep("c")), "a//b/c", "/a//b/c")
	wantSel(t, sel("", elStep("a"), elStep("b"), deep(elStep("c"))), "a/b//c")
	wantSel(t, sel("", deep(elStep("a")), deep(anyStep()), deep(textStep())), "//a//*//text()")
	// Nothing tells that a text has no Kids.
	wantSel(t, sel("", textStep(), noteStep(), toldStep("t"), anyStep(), elStep("p:a"), attrStep("p:k")), "text()/comment()/processing-instruction('t')/*/p:a/@p:k")
	wantSel(t, sel("", textStep(), deep(textStep()), spaceStep("p")), "text()//text()/namespace::p")
	wantSel(t, sel("", elStep("a", nth(1)), deep(textStep(nth(2))), noteStep(nth(3))), "a[1]//text()[2]/comment()[3]")
	wantSel(t, sel("i", deep(elStep("a", attrIs("k", "v"))), attrStep("k")), "id('i')//a[@k='v']/@k")
	wantNoSel(t, "a b", "a*", "*a", "**", "a@k", "@k@l", "text()text()", "a/b/", "a//", "a///b", "a/ /b", "a/[1]", "a//[1]", "/", "//", "", " ", "[1]", "/[1]", ".", "..", "./a", "a/..", "a/.", "a|b", "a,b", "(a)", "a()", "*()", "node()", "a::b", "child::a", "attribute::k", "self::a", "namespace::*", "@*", "p:*", "*:a", "a:", ":a", "a::", "1", "'a'", "a and b", "a=b", "a='b'", "$a", "-a")
	wantSel(t, sel("", elStep("a-")), "a-")
}

// stepKinds are one step of each kind, and which kinds of Preds it may have.
func stepKinds() map[*impl.Step][]int {
	all, one := []int{impl.PdNth, impl.PdAttr, impl.PdKid, impl.PdSelf}, []int{impl.PdNth}
	kinds := map[*impl.Step][]int{}
	for _, x := range []impl.Step{elStep("a"), elStep("p:a"), anyStep()} {
		kinds[&x] = all
	}
	for _, x := range []impl.Step{textStep(), noteStep(), toldStep(""), toldStep("t")} {
		kinds[&x] = one
	}
	for _, x := range []impl.Step{attrStep("k"), attrStep("p:k"), spaceStep("p")} {
		kinds[&x] = nil
	}
	return kinds
}

// somePreds are of each kind, with a part ahead and without, and how they are written.
func somePreds() map[impl.Pred]string {
	return map[impl.Pred]string{
		nth(1): "1", nth(10): "10", nth(999): "999",
		attrIs("k", "v"): "@k='v'", attrIs("p:k", ""): "@p:k=''", attrIs("k", "it's"): "@k=\"it's\"",
		kidIs("b", "v"): "b='v'", kidIs("p:b", "\""): "p:b='\"'", kidIs("text", "text()"): "text='text()'",
		selfIs("v"): ".='v'", selfIs(""): ".=''", selfIs("'"): ".=\"'\"",
	}
}

func TestPredsOfEachKindOfStep(t *testing.T) {
	for x, kinds := range stepKinds() {
		text := impl.SelText(sel("", *x))
		for p, predText := range somePreds() {
			has := *x
			has.Preds = []impl.Pred{p}
			if slices.Contains(kinds, p.Kind) {
				wantSel(t, sel("", has), text+"["+predText+"]")
				wantSel(t, sel("i", deep(has), anyStep()), "id('i')//"+text+"["+predText+"]/*")
			} else {
				wantWrongSel(t, sel("", has), sel("i", has), sel("", elStep("a"), has))
				wantNoSel(t, text+"["+predText+"]", "id('i')/"+text+"["+predText+"]", "a/"+text+"["+predText+"]")
			}
			// One that is not right makes all of them wrong.
			for _, others := range [][]impl.Pred{{p, nth(0)}, {nth(0), p}, {p, p, nth(1000)}, {p, {Kind: 9}}} {
				has.Preds = others
				wantWrongSel(t, sel("", has))
			}
		}
	}
}

func TestMaxPreds(t *testing.T) {
	preds := []impl.Pred{nth(2), attrIs("k", "v"), kidIs("p:b", "w"), selfIs("x"), nth(1)}
	texts := []string{"[2]", "[@k='v']", "[p:b='w']", "[.='x']", "[1]"}
	for from := range preds {
		for to := from; to <= len(preds); to++ {
			text := "a" + strings.Join(texts[from:to], "")
			for _, x := range []impl.Sel{sel("", elStep("a", preds[from:to]...)), sel("i", elStep("a", preds[from:to]...), elStep("b"))} {
				if to-from > impl.MaxPreds {
					wantWrongSel(t, x)
					wantNoSel(t, text, "id('i')/"+text+"/b")
				} else {
					wantRightSel(t, true, x)
				}
			}
			if to-from <= impl.MaxPreds {
				wantSel(t, sel("", elStep("a", preds[from:to]...)), text)
				wantSel(t, sel("i", elStep("a", preds[from:to]...), elStep("b")), "id('i')/"+text+"/b")
			}
		}
	}
	for _, x := range []impl.Step{anyStep(), textStep(), noteStep(), toldStep("t")} {
		text := impl.SelText(sel("", x))
		x.Preds = []impl.Pred{nth(3), nth(3), nth(1)}
		wantSel(t, sel("", x), text+"[3][3][1]")
		x.Preds = []impl.Pred{nth(3), nth(3), nth(1), nth(1)}
		wantWrongSel(t, sel("", x))
		wantNoSel(t, text+"[3][3][1][1]")
	}
	// Each step has as many as may be.
	wantSel(t, sel("", elStep("a", nth(1), nth(1), nth(1)), elStep("b", nth(1), nth(1), nth(1))), "a[1][1][1]/b[1][1][1]")
	wantWrongSel(t, sel("", elStep("a", make([]impl.Pred, 1000000)...)))
}

func TestMaxSteps(t *testing.T) {
	for count := 1; count <= 2*impl.MaxSteps; count++ {
		steps, text := []impl.Step{}, []string{}
		for i := range count {
			steps = append(steps, elStep("a"+strconv.Itoa(i)))
			text = append(text, "a"+strconv.Itoa(i))
		}
		forms := []string{strings.Join(text, "/"), "id('i')/" + strings.Join(text, "/")}
		if count > impl.MaxSteps {
			wantWrongSel(t, sel("", steps...), sel("i", steps...))
			wantNoSel(t, append(forms, "/"+forms[0])...)
			continue
		}
		wantSel(t, sel("", steps...), forms[0], "/"+forms[0])
		wantSel(t, sel("i", steps...), forms[1])
		// The last one, too, may be a deep one, or an Attr.
		steps[count-1] = attrStep("k")
		text[count-1] = "@k"
		wantSel(t, sel("", steps...), strings.Join(text, "/"))
	}
	wantWrongSel(t, sel("", make([]impl.Step, 1000000)...), sel("i", make([]impl.Step, 1000000)...))
}

func TestNth(t *testing.T) {
	for n := -3; n <= 1200; n++ {
		right, digits := n >= 1 && n <= 999, strconv.Itoa(n)
		for _, x := range []impl.Step{elStep("a", nth(n)), textStep(nth(n))} {
			wantRightSel(t, right, sel("", x))
		}
		if right {
			wantSel(t, sel("", elStep("a", nth(n))), "a["+digits+"]", "a[ "+digits+" ]")
			wantSel(t, sel("", textStep(nth(n))), "text()["+digits+"]")
		} else {
			wantNoSel(t, "a["+digits+"]", "a[ "+digits+" ]", "text()["+digits+"]")
		}
		wantNoSel(t, "a[0"+digits+"]", "a[00"+digits+"]", "a[+"+digits+"]", "a[-"+digits+"]", "a["+digits+".]", "a["+digits+".0]", "a["+digits+"e0]", "a['"+digits+"']", "a["+digits+"'']", "a["+digits+"=1]", "a["+digits+"='1']", "a[@"+digits+"='1']", "a[_"+digits+"]", "a["+digits+"_0]", "a[0x"+digits+"]")
		if n >= 10 {
			wantNoSel(t, "a["+digits[:1]+" "+digits[1:]+"]")
		}
	}
	for _, n := range append([]int{1000, 9999, 1 << 62, 1<<32 + 1}, slices.DeleteFunc(slices.Clone(strangeNumbers), func(n int) bool { return n == 256 })...) {
		wantWrongSel(t, sel("", elStep("a", nth(n))), sel("i", anyStep(nth(1), nth(n))))
		wantNoSel(t, "a["+strconv.Itoa(n)+"]")
	}
	wantNoSel(t, "a[]", "a[ ]", "a[18446744073709551617]", "a[9223372036854775808]", "a["+strings.Repeat("0", 150)+"1]", "a["+strings.Repeat("9", 150)+"]", "a[\u0661]", "a[1,2]", "a[1 2]", "a[1][]", "a[last()]", "a[position()=1]", "a[[1]]", "a[1]]", "a[[1]", "a[1", "a1]", "a[1]b", "a[1]1", "a [1] b")
}

func TestLastStepsAlone(t *testing.T) {
	for _, x := range []impl.Step{attrStep("k"), attrStep("p:k"), spaceStep("p")} {
		text := impl.SelText(sel("", x))
		for y := range stepKinds() {
			behind := impl.SelText(sel("", *y))
			wantWrongSel(t, sel("", x, *y), sel("i", x, *y), sel("", elStep("a"), x, *y), sel("", x, deep(*y)), sel("", x, elStep("a"), *y))
			wantNoSel(t, text+"/"+behind, text+"//"+behind, "id('i')/"+text+"/"+behind, "a/"+text+"/"+behind, text+"/a/"+behind)
			if y.Kind != impl.SlAttr && y.Kind != impl.SlSpace {
				wantSel(t, sel("", *y, x), behind+"/"+text)
				wantWrongSel(t, sel("", *y, deep(x)))
				wantNoSel(t, behind+"//"+text)
			}
		}
	}
}

// unnamed are x with one field turned that its kind does not name.
func unnamed(x impl.Step) []impl.Step {
	turns := map[int][]func(*impl.Step){
		impl.SlAny:   {func(x *impl.Step) { x.Pre = "p" }, func(x *impl.Step) { x.Local = "a" }, func(x *impl.Step) { x.Pre, x.Local = "p", "a" }},
		impl.SlTold:  {func(x *impl.Step) { x.Pre = "p" }},
		impl.SlSpace: {func(x *impl.Step) { x.Pre = "p" }},
	}
	turns[impl.SlText], turns[impl.SlNote] = turns[impl.SlAny], turns[impl.SlAny]
	var l []impl.Step
	for _, turn := range turns[x.Kind] {
		y := x
		turn(&y)
		l = append(l, y)
	}
	return l
}

func unnamedPreds(p impl.Pred) []impl.Pred {
	var l []impl.Pred
	turn := func(do func(*impl.Pred)) {
		y := p
		do(&y)
		l = append(l, y)
	}
	if p.Kind == impl.PdNth {
		turn(func(p *impl.Pred) { p.Val = "v" })
		turn(func(p *impl.Pred) { p.Val = " " })
	} else {
		for _, n := range []int{1, -1, 999, math.MinInt} {
			turn(func(p *impl.Pred) { p.N = n })
		}
	}
	if p.Kind == impl.PdNth || p.Kind == impl.PdSelf {
		turn(func(p *impl.Pred) { p.Pre = "p" })
		turn(func(p *impl.Pred) { p.Local = "a" })
		turn(func(p *impl.Pred) { p.Pre, p.Local = "p", "a" })
	}
	return l
}

func TestSelOkOfWhatIsNotNamed(t *testing.T) {
	for x := range stepKinds() {
		for _, y := range unnamed(*x) {
			wantWrongSel(t, sel("", y), sel("i", y), sel("", elStep("a"), y))
		}
	}
	for p := range somePreds() {
		wantRightSel(t, true, sel("", elStep("a", p)))
		for _, y := range unnamedPreds(p) {
			wantWrongSel(t, sel("", elStep("a", y)), sel("", anyStep(p, y)), sel("i", anyStep(y, p)), sel("", anyStep(y), elStep("a")), sel("", textStep(y)))
		}
	}
}

func TestStrangeKindsInSels(t *testing.T) {
	for _, kind := range append([]int{0, 8, 10, -7, 64}, strangeKinds...) {
		if kind < impl.SlEl || kind > impl.SlSpace {
			for _, x := range []impl.Step{{Kind: kind}, {Kind: kind, Local: "a"}, {Kind: kind, Pre: "p", Local: "a"}, {Kind: kind, Deep: true, Local: "a"}, {Kind: kind, Preds: []impl.Pred{nth(1)}}, {Kind: kind, Local: "a", Preds: []impl.Pred{nth(1)}}} {
				wantWrongSel(t, sel("", x), sel("i", x), sel("", x, elStep("a")), sel("", elStep("a"), x))
			}
		}
		if kind < impl.PdNth || kind > impl.PdSelf {
			for _, p := range []impl.Pred{{Kind: kind}, {Kind: kind, N: 1}, {Kind: kind, Local: "a"}, {Kind: kind, Local: "a", Val: "v"}, {Kind: kind, Val: "v"}, {Kind: kind, N: 1, Pre: "p", Local: "a", Val: "v"}} {
				wantWrongSel(t, sel("", elStep("a", p)), sel("", anyStep(nth(1), p)), sel("", textStep(p)))
			}
		}
	}
}

func TestNamesInSels(t *testing.T) {
	for _, name := range plainNames {
		for _, pre := range append([]string{""}, plainNames...) {
			x := sel("", impl.Step{Kind: impl.SlEl, Pre: pre, Local: name, Preds: []impl.Pred{{Kind: impl.PdAttr, Pre: pre, Local: name}, {Kind: impl.PdKid, Pre: pre, Local: name}}}, impl.Step{Kind: impl.SlAttr, Pre: pre, Local: name})
			whole := strings.TrimPrefix(pre+":"+name, ":")
			wantSel(t, x, whole+"[@"+whole+"='']["+whole+"='']/@"+whole)
			if pre != "" {
				wantNoSel(t, "namespace::"+whole, "processing-instruction('"+whole+"')")
			}
		}
		wantSel(t, sel("", toldStep(name), spaceStep(name)), "processing-instruction('"+name+"')/namespace::"+name)
	}
	for _, wrong := range noNames {
		for _, kind := range []int{impl.SlEl, impl.SlAttr, impl.SlSpace, impl.SlTold} {
			if wrong != "" || kind != impl.SlTold {
				wantWrongSel(t, sel("", impl.Step{Kind: kind, Local: wrong}), sel("i", impl.Step{Kind: kind, Local: wrong}))
			}
			wantWrongSel(t, sel("", impl.Step{Kind: kind, Pre: "p", Local: wrong}))
			if wrong != "" {
				wantWrongSel(t, sel("", impl.Step{Kind: kind, Pre: wrong, Local: "a"}), sel("", impl.Step{Kind: kind, Pre: wrong}))
			}
		}
		for _, kind := range []int{impl.PdAttr, impl.PdKid} {
			wantWrongSel(t, sel("", anyStep(impl.Pred{Kind: kind, Local: wrong, Val: "v"})), sel("", anyStep(impl.Pred{Kind: kind, Pre: "p", Local: wrong, Val: "v"})))
			if wrong != "" {
				wantWrongSel(t, sel("", anyStep(impl.Pred{Kind: kind, Pre: wrong, Local: "a", Val: "v"})))
			}
		}
		wantNoSel(t, "processing-instruction('"+wrong+"')", "*[@ "+wrong+"='v']", "namespace:: "+wrong, "@ "+wrong)
		// Blanks about a name, and a `/` between two, are taken for what they are.
		if bare := strings.Trim(wrong, " "); bare == wrong && bare != "a/b" {
			wantNoSel(t, wrong, "/"+wrong, "//"+wrong, "a/"+wrong, "a/"+wrong+"[1]", "a["+wrong+"='v']", "a[@"+wrong+"='v']", "@"+wrong, "namespace::"+wrong)
		}
	}
	// The part ahead alone, and the name alone, are no longer than MaxName bytes.
	long := "sixteenletters_x"
	wantSel(t, sel("", elStep(long+":"+long)), long+":"+long)
	wantNoSel(t, long+"x:"+long, long+":"+long+"x", long+"x", "@"+long+"x", "namespace::"+long+"x", "processing-instruction('"+long+"x')", "*["+long+"x='v']", "*[@"+long+"x='v']")
}

func TestNamesThatAreWords(t *testing.T) {
	for _, word := range []string{"id", "text", "comment", "namespace", "processing", "node", "and", "or", "div"} {
		wantSel(t, sel("", elStep(word)), word, "/"+word, " "+word+" ")
		wantSel(t, sel("", elStep(word, nth(1))), word+"[1]", word+" [ 1 ]")
		wantSel(t, sel("", deep(elStep(word)), elStep(word), attrStep(word)), "//"+word+"/"+word+"/@"+word)
		wantSel(t, sel("", elStep(word+":"+word)), word+":"+word)
		wantSel(t, sel("", elStep(word+":a"), elStep("a:"+word)), word+":a/a:"+word)
		wantSel(t, sel("", elStep("a", kidIs(word, "v"), attrIs(word+":"+word, "v"))), "a["+word+"='v'][@"+word+":"+word+"='v']")
		wantSel(t, sel("", toldStep(word)), "processing-instruction('"+word+"')")
		wantSel(t, sel("", spaceStep(word)), "namespace::"+word)
		wantSel(t, sel(word, elStep(word)), "id('"+word+"')/"+word)
		wantNoSel(t, word+"(", word+")", word+"(1)", word+"("+word+")", word+"()()", word+"::", word+":", word+"/("+word+")")
		// What begins like a word, or ends like one, is another name.
		for _, name := range []string{word + "s", word + ".", word + "-", "x" + word, word + "1", "_" + word} {
			wantSel(t, sel("", elStep(name)), name)
			wantNoSel(t, name+"()", name+"('i')")
		}
	}
	// This one is longer than a name may be.
	word := "processing-instruction"
	wantWrongSel(t, sel("", elStep(word)), sel("", attrStep(word)), sel("", toldStep(word)), sel("", spaceStep(word)), sel("", elStep("a", kidIs(word, "v"))))
	wantNoSel(t, word, "/"+word, word+"[1]", "@"+word, word+":a", "a:"+word, "a["+word+"='v']", "namespace::"+word, word+"('"+word+"')", word+"(", word+"(t)", word+"('t'", word+"('t','u')", word+"()()", word+"(())", word+"('t')('t')")
	wantNoSel(t, "text('t')", "comment('t')", "text(())", "text(", "comment(", "namespace::", "namespace::p:q", "namespace:::p", "namespace::namespace::p", "@namespace::p", "namespace::@p", "namespace:p:q", "namespace::text()", "*[namespace::p='v']", "*[text()='v']", "*[@text()='v']", "*[*='v']", "*[@*='v']", "*[comment()]")
	wantSel(t, sel("", elStep("namespace:p")), "namespace:p")
}

// quotedPlaces are where a text stands between quotes, and what it is part of there.
func quotedPlaces() map[string]func(s string) impl.Sel {
	return map[string]func(s string) impl.Sel{
		"id(#)":                     func(s string) impl.Sel { return sel(s) },
		"id(#)//a":                  func(s string) impl.Sel { return sel(s, deep(elStep("a"))) },
		"a[@k=#]":                   func(s string) impl.Sel { return sel("", elStep("a", attrIs("k", s))) },
		"a[@p:k=#][b=#]":            func(s string) impl.Sel { return sel("", elStep("a", attrIs("p:k", s), kidIs("b", s))) },
		"*[b=#]/c":                  func(s string) impl.Sel { return sel("", anyStep(kidIs("b", s)), elStep("c")) },
		"a[.=#]":                    func(s string) impl.Sel { return sel("", elStep("a", selfIs(s))) },
		"id(#)/a[.=#][@k=#][1]/*":   func(s string) impl.Sel { return sel(s, elStep("a", selfIs(s), attrIs("k", s), nth(1)), anyStep()) },
		"processing-instruction(#)": func(s string) impl.Sel { return sel("", toldStep(s)) },
	}
}

func TestQuotesInSels(t *testing.T) {
	for at, of := range quotedPlaces() {
		write := func(from string, s string, to string) string { return strings.ReplaceAll(at, "#", from+s+to) }
		told, asId := strings.Contains(at, "instruction"), strings.Contains(at, "id(")
		for _, s := range []string{"v", "", " ", " v  w ", "it's", "'", "''", "say \"v\"", "\"", "a/b[1]", "]", ")", "=", "//", "\t\n\r", "<&>", "\u00e9\u3042\U00010000", "\ufffd", "*", "@k", "'[1]='"} {
			switch {
			case told && !impl.PlainOk(s) || asId && s == "":
				wantNoSel(t, write("'", s, "'"), write("\"", s, "\""))
			case strings.Contains(s, "'"):
				wantSel(t, of(s), write("\"", s, "\""))
			case strings.Contains(s, "\""):
				wantSel(t, of(s), write("'", s, "'"))
			default:
				wantSel(t, of(s), write("'", s, "'"), write("\"", s, "\""))
			}
		}
		// A quote ends at the next one of its kind.
		for _, s := range []string{"it's", "'", "v'", "'v", "'v'", "x'y'z"} {
			wantNoSel(t, write("'", s, "'"))
			wantNoSel(t, write("\"", strings.ReplaceAll(s, "'", "\""), "\""))
		}
		for _, s := range []string{"'\"", "\"'", "it's \"v\"", "v'w\""} {
			wantWrongSel(t, of(s))
			wantNoSel(t, write("'", s, "'"), write("\"", s, "\""))
		}
		for _, s := range []string{"v", ""} {
			one := func(from string, s string, to string) string {
				return strings.Replace(write("'", "v", "'"), "'v'", from+s+to, 1)
			}
			wantNoSel(t, one("'", s, ""), one("\"", s, ""), one("", s, "'"), one("", s, "\""))
			if !told || s != "" {
				wantNoSel(t, one("", s, ""))
			}
			wantNoSel(t, one("'", s, "\""), one("\"", s, "'"), write("'", s, "\""), write("\"", s, "'"), write("`", s, "`"), write("\u2018", s, "\u2019"), write("''", s, "''"), write("(", s, ")"), write("&quot;", s, "&quot;"))
		}
		for _, s := range noTexts {
			wantWrongSel(t, of(s), of("v"+s), of(s+"v"))
			wantNoSel(t, write("'", s, "'"), write("\"", s, "\""), write("'", "v"+s, "'"), write("'", s+"v", "'"))
		}
	}
	// Each one has quotes of its own.
	wantParsed(t, "id(\"i\")/a[@k='v'][b=\"it's\"]/*[.='\"']", sel("i", elStep("a", attrIs("k", "v"), kidIs("b", "it's")), anyStep(selfIs("\""))))
	wantParsed(t, "a[b='\"'][c=\"'\"]", sel("", elStep("a", kidIs("b", "\""), kidIs("c", "'"))))
	wantParsed(t, "a[b='x'][c='y']", sel("", elStep("a", kidIs("b", "x"), kidIs("c", "y"))))
}

func TestSlashAhead(t *testing.T) {
	wantSel(t, sel("", elStep("a"), elStep("b")), "a/b", "/a/b", " /a/b", "/ a/b", " / a/b", "   /   a/b")
	wantSel(t, sel("", deep(elStep("a")), elStep("b")), "//a/b", " // a/b")
	wantSel(t, sel("", attrStep("k")), "@k", "/@k", " / @k")
	wantSel(t, sel("", spaceStep("p")), "namespace::p", "/namespace::p", " / namespace::p")
	wantSel(t, sel("i", elStep("a")), "id('i')/a", "id('i') / a")
	wantSel(t, sel("", elStep("id")), "id", "/id")
	wantNoSel(t, "///a", "/ //a", "// /a", "////a", "/ /a", "/id('i')", "/id('i')/a", "//id('i')", "id('i')///a", "id('i')/ /a", "id('i')a", "a///b", "a/ /b", "\\a", "/", "//", " / ", " // ", "///", "/[1]", "//[1]")
}

// spaced are the parts of a selector's text beside which bytes 32 may stand.
var spaced = []string{"[", "]", "(", ")", "=", "/", "//"}

// partedSel is a selector, and its text in parts: those of a name, a number and a word one by one, what stands between quotes as one.
type partedSel struct {
	x     impl.Sel
	parts []string
}

func partedSels() []partedSel {
	words := func(s string) []string { return strings.Split(s, "") }
	told := append(words("processing-instruction"), "(", "'t'", ")")
	return []partedSel{
		{sel("", elStep("a")), []string{"a"}},
		{sel("", elStep("ab")), words("ab")},
		{sel("", elStep("p:a.b")), words("p:a.b")},
		{sel("", deep(anyStep(nth(123)))), []string{"//", "*", "[", "1", "2", "3", "]"}},
		{sel("", elStep("a"), deep(elStep("b")), elStep("c")), []string{"a", "//", "b", "/", "c"}},
		{sel("", elStep("a", attrIs("k:l", "v w"), nth(1))), []string{"a", "[", "@", "k", ":", "l", "=", "'v w'", "]", "[", "1", "]"}},
		{sel("", elStep("a", kidIs("b:c", ""), selfIs("it's")), attrStep("kk")), []string{"a", "[", "b", ":", "c", "=", "''", "]", "[", ".", "=", "\"it's\"", "]", "/", "@", "k", "k"}},
		{sel("", textStep()), append(words("text"), "(", ")")},
		{sel("", textStep(nth(12))), append(words("text"), "(", ")", "[", "1", "2", "]")},
		{sel("", elStep("a"), deep(noteStep())), append(append([]string{"a", "//"}, words("comment")...), "(", ")")},
		{sel("", toldStep("")), append(words("processing-instruction"), "(", ")")},
		{sel("", toldStep("t")), told},
		{sel("", toldStep("t", nth(7))), append(slices.Clone(told), "[", "7", "]")},
		{sel("", elStep("a"), spaceStep("pq")), append([]string{"a", "/"}, words("namespace::pq")...)},
		{sel("", spaceStep("p")), words("namespace::p")},
		{sel("i j"), []string{"i", "d", "(", "'i j'", ")"}},
		{sel("i", elStep("a", nth(1))), []string{"i", "d", "(", "'i'", ")", "/", "a", "[", "1", "]"}},
		{sel("i", deep(textStep())), append(append([]string{"i", "d", "(", "'i'", ")", "//"}, words("text")...), "(", ")")},
	}
}

// mayBeSpaced tells it of the place ahead of the i-th part (behind the last one, of their number).
func mayBeSpaced(parts []string, i int) bool {
	return i == 0 || i == len(parts) || slices.Contains(spaced, parts[i-1]) || slices.Contains(spaced, parts[i])
}

// laid lays the parts together, with blanks ahead of the i-th one.
func laid(parts []string, i int, blanks string) string {
	return strings.Join(parts[:i], "") + blanks + strings.Join(parts[i:], "")
}

func TestBlanksInSels(t *testing.T) {
	for _, p := range partedSels() {
		wantSel(t, p.x, strings.Join(p.parts, ""))
		for i := range len(p.parts) + 1 {
			for _, blanks := range []string{" ", "  ", strings.Repeat(" ", 50)} {
				if s := laid(p.parts, i, blanks); mayBeSpaced(p.parts, i) {
					wantParsed(t, s, p.x)
				} else {
					wantNoSel(t, s)
				}
			}
			for _, no := range []string{"\t", "\n", "\r", "\v", "\f", "\x00", "\x1f", "\u00a0", "\u0085", "\u2003", "\u3000", " \t", "\n ", " \r "} {
				wantNoSel(t, laid(p.parts, i, no))
			}
		}
		for count := range 5 {
			wantParsed(t, spacedOut(p.parts, func() string { return strings.Repeat(" ", count) }), p.x)
		}
	}
	// The two bytes of `//`, and of `::`, stand together; between quotes a blank is part of what is told.
	wantNoSel(t, "a/ /b", "/ /b", "id('i')/ /a", "namespace: :p", "namespace ::p", "namespace:: p", "@ k", "a/@ k", "p :a", "p: a", "p : a", "@p :k", "a[@ k='v']", "a[1 2]", "a[@p: k='v']", "a[b c='v']", "a[. ='v']x")
	wantParsed(t, "a[. = 'v']", sel("", elStep("a", selfIs("v"))))
	wantParsed(t, "a[.=' v ']", sel("", elStep("a", selfIs(" v "))))
	wantParsed(t, "id(' i ')", sel(" i "))
	wantNoSel(t, "processing-instruction(' t ')", "processing-instruction('t ')", " ", "    ", "a[ ]", "text( )( )")
}

// spacedOut lays the parts together, with blanks at each place where they may be.
func spacedOut(parts []string, blanks func() string) string {
	s := ""
	for i := range len(parts) + 1 {
		if mayBeSpaced(parts, i) {
			s += blanks()
		}
		if i < len(parts) {
			s += parts[i]
		}
	}
	return s
}

func TestMaxSel(t *testing.T) {
	for _, more := range []int{-2, -1, 0, 1, 2, 100, 400} {
		long := impl.MaxSel + more
		val := func(all int) string { return strings.Repeat("v", all) }
		for _, x := range []struct {
			x    impl.Sel
			text string
		}{
			{sel(val(long - 6)), "id('" + val(long-6) + "')"},
			{sel("'" + val(long-7)), "id(\"'" + val(long-7) + "\")"},
			{sel(val(long-8), elStep("a")), "id('" + val(long-8) + "')/a"},
			{sel("", elStep("a", attrIs("k", val(long-7)))), "a[@k='" + val(long-7) + "']"},
			{sel("", deep(elStep("a", kidIs("p:k", val(long-10))))), "//a[p:k='" + val(long-10) + "']"},
			{sel("", anyStep(selfIs(val(long-10))), attrStep("k")), "*[.='" + val(long-10) + "']/@k"},
		} {
			// Whether it is right does not hang on how long its text is.
			wantRightSel(t, true, x.x)
			if len(x.text) > impl.MaxSel {
				if got := impl.SelText(x.x); got != "" {
					t.Errorf("SelText is %d bytes", len(got))
				}
				wantNoSel(t, x.text)
			} else {
				wantSel(t, x.x, x.text)
			}
		}
	}
}

func TestMaxSelOfLongerSigns(t *testing.T) {
	for _, sign := range []string{"\u00e9", "\u3042", "\U00010000"} {
		for count := 1; count <= impl.MaxSel; count++ {
			id := strings.Repeat(sign, count)
			x, text := sel(id), "id('"+id+"')"
			wantRightSel(t, len(id) <= impl.MaxText, x)
			if len(text) <= impl.MaxSel {
				wantSel(t, x, text)
			} else if got := impl.SelText(x); got != "" {
				t.Errorf("SelText(%d bytes) = %q", len(text), got)
			} else {
				wantNoSel(t, text)
			}
		}
	}
}

func TestMaxSelByBlanksAlone(t *testing.T) {
	for _, p := range partedSels() {
		text := strings.Join(p.parts, "")
		for i := range len(p.parts) + 1 {
			if !mayBeSpaced(p.parts, i) {
				continue
			}
			most := impl.MaxSel - len(text)
			wantParsed(t, laid(p.parts, i, strings.Repeat(" ", most)), p.x)
			for _, more := range []int{1, 2, 200, 100000} {
				wantNoSel(t, laid(p.parts, i, strings.Repeat(" ", most+more)))
			}
		}
	}
	// So does a `/` ahead count, though it is not written.
	long := strings.Repeat("v", impl.MaxSel-8)
	x := sel("", elStep("aa", selfIs(long)))
	wantSel(t, x, "aa[.='"+long+"']")
	wantNoSel(t, "/aa[.='"+long+"']", "aa[.='"+long+"'] ", strings.Repeat(" ", impl.MaxSel), strings.Repeat(" ", impl.MaxSel+1))
	wantParsed(t, "/a[.='"+long+"']", sel("", elStep("a", selfIs(long))))
}

func TestTextsInSelsOfMaxText(t *testing.T) {
	for at, of := range quotedPlaces() {
		if strings.Contains(at, "instruction") {
			continue
		}
		for _, sign := range []string{"v", "\u00e9", "\u3042", "\U00010000", " ", "'", "\""} {
			most := impl.MaxText / len(sign)
			wantRightSel(t, true, of(strings.Repeat(sign, most)))
			wantWrongSel(t, of(strings.Repeat(sign, most)+"v"), of("v"+strings.Repeat(sign, most)), of(strings.Repeat(sign, 1000000)))
			if got := impl.SelText(of(strings.Repeat(sign, most))); got != "" {
				t.Errorf("SelText = %q", got)
			}
		}
	}
}

func TestVeryLongSels(t *testing.T) {
	for _, piece := range []string{"a", "/", "//", "a/", "/a", "*", "[", "[1]", "a[1]", "]", "(", "id(", "text(", "'", "\"", "@", "::", ":", ".", "=", "1", " ", "\xff", "\x00", "namespace::", "a[@k='"} {
		for _, count := range []int{impl.MaxSel + 1, 1000000} {
			long := strings.Repeat(piece, count)
			wantNoSel(t, long, "a"+long, "a["+long, "id('"+long+"')", "a[.='"+long+"']", "a[@"+long+"='v']", "@"+long, long+"a", "a[b='v']/"+long)
		}
	}
	var steps []impl.Step
	for range impl.MaxSteps {
		steps = append(steps, elStep("sixteenletters_x:sixteenletters_x", attrIs("sixteenletters_x:k", strings.Repeat("v", impl.MaxText)), kidIs("b", strings.Repeat("'", impl.MaxText)), selfIs(strings.Repeat("\"", impl.MaxText))))
	}
	x := sel(strings.Repeat("i", impl.MaxText), steps...)
	if !impl.SelOk(x) || impl.SelText(x) != "" || !impl.SameSel(x, bareSel(x)) {
		t.Error("as long as may be")
	}
}

// writtenSel is how a selector would be written, right or not, with each text between the quotes that quote has for it, in parts.
func writtenSel(x impl.Sel, quote func(string) string) []string {
	var parts []string
	put := func(l ...string) { parts = append(parts, l...) }
	if x.Id != "" {
		put("id", "(", quote(x.Id), ")")
	}
	for i, s := range x.Steps {
		if s.Deep {
			put("//")
		} else if i > 0 || x.Id != "" {
			put("/")
		}
		switch s.Kind {
		case impl.SlEl:
			put(wholeName(s.Pre, s.Local))
		case impl.SlAny:
			put("*")
		case impl.SlText:
			put("text", "(", ")")
		case impl.SlNote:
			put("comment", "(", ")")
		case impl.SlTold:
			put("processing-instruction", "(")
			if s.Local != "" {
				put(quote(s.Local))
			}
			put(")")
		case impl.SlAttr:
			put("@" + wholeName(s.Pre, s.Local))
		case impl.SlSpace:
			put("namespace::" + s.Local)
		}
		for _, p := range s.Preds {
			put("[")
			switch p.Kind {
			case impl.PdNth:
				put(fmt.Sprint(p.N))
			case impl.PdAttr:
				put("@"+wholeName(p.Pre, p.Local), "=", quote(p.Val))
			case impl.PdKid:
				put(wholeName(p.Pre, p.Local), "=", quote(p.Val))
			case impl.PdSelf:
				put(".", "=", quote(p.Val))
			}
			put("]")
		}
	}
	return parts
}

func wholeName(pre string, local string) string {
	if pre == "" {
		return local
	}
	return pre + ":" + local
}

// plainQuoted are the quotes that SelText takes.
func plainQuoted(s string) string {
	quote := "'"
	if strings.Contains(s, "'") {
		quote = "\""
	}
	return quote + s + quote
}

const (
	selName   = `([^ \t\r\n'"=/@\[\]()*<>&]+)`
	selQuoted = `(?:'([^']*)'|"([^"]*)")`
)

// A text that is empty is no Id, and no Local.
var (
	selIdForm   = regexp.MustCompile(`^id *\( *` + strings.ReplaceAll(selQuoted, "*", "+") + ` *\) *`)
	selStepForm = regexp.MustCompile(`^(//|/|) *(?:(\*)|(text) *\( *\)|(comment) *\( *\)|(processing-instruction) *\( *(?:` + strings.ReplaceAll(selQuoted, "*", "+") + ` *)?\)|@` + selName + `|namespace::` + selName + `|` + selName + `) *`)
	selPredForm = regexp.MustCompile(`^\[ *(?:([1-9][0-9]{0,2})|@` + selName + ` *= *` + selQuoted + `|(\.) *= *` + selQuoted + `|` + selName + ` *= *` + selQuoted + `) *\] *`)
)

// plainSel is another way to what ParseSel reads, whatever its length: by regular expressions.
func plainSel(s string) (impl.Sel, bool) {
	var x impl.Sel
	rest := strings.Trim(s, " ")
	if m := selIdForm.FindStringSubmatch(rest); m != nil {
		x.Id, rest = m[1]+m[2], rest[len(m[0]):]
	}
	right := plainText(x.Id)
	for rest != "" {
		m := selStepForm.FindStringSubmatch(rest)
		if m == nil || m[1] == "" && (x.Id != "" || x.Steps != nil) {
			return impl.Sel{}, false
		}
		rest = rest[len(m[0]):]
		step := impl.Step{Deep: m[1] == "//"}
		for i, kind := range []int{0, 0, impl.SlAny, impl.SlText, impl.SlNote, impl.SlTold, 0, 0, impl.SlAttr, impl.SlSpace, impl.SlEl} {
			if kind != 0 && m[i] != "" {
				step.Kind = kind
			}
		}
		name := m[6] + m[7] + m[8] + m[9] + m[10]
		if name != "" {
			right = right && plainName(name, &step.Pre, &step.Local)
		}
		for {
			m := selPredForm.FindStringSubmatch(rest)
			if m == nil {
				break
			}
			rest = rest[len(m[0]):]
			p := impl.Pred{Val: m[3] + m[4] + m[6] + m[7] + m[9] + m[10]}
			switch {
			case m[1] != "":
				p.Kind = impl.PdNth
				p.N, _ = strconv.Atoi(m[1])
			case m[5] != "":
				p.Kind = impl.PdSelf
			case m[2] != "":
				p.Kind = impl.PdAttr
			default:
				p.Kind = impl.PdKid
			}
			if name := m[2] + m[8]; name != "" {
				right = right && plainName(name, &p.Pre, &p.Local)
			}
			right = right && plainText(p.Val)
			step.Preds = append(step.Preds, p)
		}
		x.Steps = append(x.Steps, step)
	}
	if !right || !plainLimits(x) {
		return impl.Sel{}, false
	}
	return x, true
}

func plainText(s string) bool {
	return len(s) <= 600 && utf8.ValidString(s) && strings.IndexFunc(s, func(r rune) bool { return !impl.IsSign(int(r)) }) < 0
}

func plainName(name string, pre *string, local *string) bool {
	parts := strings.Split(name, ":")
	*local = parts[len(parts)-1]
	if len(parts) == 2 {
		*pre = parts[0]
	}
	return len(parts) <= 2 && !slices.ContainsFunc(parts, func(s string) bool { return !impl.PlainOk(s) })
}

// plainLimits asks of what was read what no text shows part by part.
func plainLimits(x impl.Sel) bool {
	if x.Id == "" && len(x.Steps) == 0 || len(x.Steps) > 8 {
		return false
	}
	for i, s := range x.Steps {
		beside := s.Kind == impl.SlAttr || s.Kind == impl.SlSpace
		if beside && (s.Deep || s.Preds != nil || i < len(x.Steps)-1) || len(s.Preds) > 3 || (s.Kind == impl.SlSpace || s.Kind == impl.SlTold) && s.Pre != "" {
			return false
		}
		for _, p := range s.Preds {
			if p.Kind != impl.PdNth && s.Kind != impl.SlEl && s.Kind != impl.SlAny {
				return false
			}
		}
	}
	return true
}

// checkSel holds what is read of s against the other way, and tells whether it was.
func checkSel(t *testing.T, s string) bool {
	t.Helper()
	got, ok := impl.ParseSel(s)
	want, wantOk := plainSel(s)
	if len(s) > 200 {
		want, wantOk = impl.Sel{}, false
	}
	if ok != wantOk || !alikeSel(got, want) {
		t.Errorf("ParseSel(%q) = %+v, %v, want %+v, %v", s, got, ok, want, wantOk)
	}
	if ok {
		wantSel(t, got, strings.Join(writtenSel(want, plainQuoted), ""))
	}
	return ok
}

func TestSelsAnotherWay(t *testing.T) {
	for _, x := range []struct {
		ahead  string
		behind string
		length int
		pieces []string
		least  int
	}{
		{"", "", 5, []string{"a", "p:", "/", "//", "*", "@", "text", "()", " ", "id('i')", "[1]"}, 1000},
		{"", "", 5, []string{"id", "text", "(", ")", "'", "i", " ", "/", "[2]", "\""}, 500},
		{"a[", "]", 5, []string{"@", "k", "=", "'", "\"", ".", "]", "[", " ", "2", ":"}, 100},
		{"*[.='x", "']", 4, []string{"'", "\"", "x", "]", "[", "=", ".", "@", "k", " "}, 50},
		{"", "p", 5, []string{"namespace", ":", "::", "@", "/", " ", "*", "a", "processing-instruction(", "'"}, 100},
		{"processing-instruction", "", 5, []string{"(", ")", "'", "t", "\"", " ", "[3]", "/", ":"}, 50},
	} {
		read := 0
		for _, s := range allOf(x.pieces, x.length) {
			if checkSel(t, x.ahead+s+x.behind) {
				read++
			}
		}
		if read < x.least {
			t.Errorf("%q: only %d were read", x.pieces, read)
		}
	}
}

// someSelTexts have each part of a selector, and some blanks.
var someSelTexts = []string{
	"a", "//a", "p:a/@q:k", "*[2]", "a[@k='1'][3]", "a[b=\"it's\"]//c", "a[.='x y']/text()[1]", "comment()[2]", "processing-instruction('t')", "/processing-instruction()/a", "a/namespace::p", "id('i')", "id(\"it's\")//b[1]", " / a [ @k = \"1\" ] // text ( ) ", "id ( 'i' ) / a [ . = '' ] [ 12 ]", "id/text/comment/namespace", "a/b//c/d/e/f//g/h", "a[1][2][3]/*[@p:k='\"'][b=''][.=\"'\"]", "\u00e9\u3042[\U00010000='\ufffd']",
}

func TestSelsThatAreTurnedABit(t *testing.T) {
	turned := []string{" ", "\t", "\n", "\r", "/", "//", "[", "]", "(", ")", "=", "@", "'", "\"", ".", ":", "*", "0", "1", "9", "a", "-", "_", "<", "&", "\x00", "\x7f", "\x80", "\xc3", "\xe3", "\xff", "\u00e9", "\u00b7", "\ufffe", "id(", "::", "'x'", "[1]"}
	for _, s := range someSelTexts {
		if !checkSel(t, s) {
			t.Errorf("%q is not read", s)
		}
		for i := range len(s) + 1 {
			checkSel(t, s[:i])
			checkSel(t, s[i:])
			for _, b := range turned {
				checkSel(t, s[:i]+b+s[i:])
				if i < len(s) {
					checkSel(t, s[:i]+b+s[i+1:])
				}
			}
			for j := i + 1; j <= len(s); j++ {
				checkSel(t, s[:i]+s[j:])
			}
		}
	}
	for b := range 256 {
		for _, at := range []string{"#", "a#", "#a", "a/#", "a[#]", "a[#1]", "a[@k#='v']", "a[@k='v'#]", "id(#'i')", "id('#')", "//#a", "a#/b", "a[.#='v']", "text(#)", "@#k", "namespace::#p", "namespace:#:p", "a[.='#']"} {
			checkSel(t, strings.Replace(at, "#", string([]byte{byte(b)}), 1))
		}
	}
}

func TestSelsOfBrokenBytes(t *testing.T) {
	for _, s := range someSelTexts {
		for i := range len(s) + 1 {
			for _, broken := range noTexts {
				wantNoSel(t, s[:i]+broken+s[i:])
			}
		}
	}
}

func (d *drawer) name() string {
	return d.one("a", "b", "p:a", "id", "text", "q:namespace", "x.y-z", "\u00e9", "comment:_1")
}

func (d *drawer) quotedText() string {
	if d.below(2) == 0 {
		return d.some(4, "v", " ", "'", "]", "/", "\n", "=", "<", "\u3042")
	}
	return d.some(4, "v", " ", "\"", "[", "//", "\r", "*", "&", "\u00e9")
}

func (d *drawer) pred(kind int) impl.Pred {
	switch kind {
	case impl.PdNth:
		return nth(1 + d.below(999))
	case impl.PdAttr:
		return attrIs(d.name(), d.quotedText())
	case impl.PdKid:
		return kidIs(d.name(), d.quotedText())
	}
	return selfIs(d.quotedText())
}

func (d *drawer) step() impl.Step {
	x := impl.Step{Deep: d.below(3) == 0}
	switch x.Kind = 1 + d.below(5); x.Kind {
	case impl.SlEl:
		x.Pre, x.Local = cutAtColon(d.name())
	case impl.SlTold:
		x.Local = d.one("", "t", "go", "text")
	}
	for range max(0, d.below(6)-2) {
		kind := impl.PdNth
		if x.Kind <= impl.SlAny {
			kind += d.below(4)
		}
		x.Preds = append(x.Preds, d.pred(kind))
	}
	return x
}

// sel is a right one, of no more than some steps.
func (d *drawer) sel() impl.Sel {
	var x impl.Sel
	for range 1 + d.below(impl.MaxSteps) {
		if x.Steps = append(x.Steps, d.step()); d.below(3) == 0 {
			break
		}
	}
	last := &x.Steps[len(x.Steps)-1]
	switch d.below(5) {
	case 0:
		*last = attrStep(d.name())
	case 1:
		*last = spaceStep(d.one("p", "namespace", "x.y"))
	}
	if d.below(3) == 0 {
		x.Id = d.one("i", "it's", " ", "\"", "\u3042/")
		if d.below(4) == 0 {
			x.Steps = nil
		}
	}
	return x
}

// otherQuotes are the one kind or the other, where both may be.
func (d *drawer) otherQuotes(s string) string {
	if strings.Contains(s, "\"") || !strings.Contains(s, "'") && d.below(2) == 0 {
		return "'" + s + "'"
	}
	return "\"" + s + "\""
}

func TestDrawnSelsComeBack(t *testing.T) {
	d, back := drawer(11), 0
	for range 30000 {
		x := d.sel()
		text := strings.Join(writtenSel(x, plainQuoted), "")
		if len(text) > impl.MaxSel {
			wantRightSel(t, true, x)
			wantNoSel(t, text)
			if got := impl.SelText(x); got != "" {
				t.Errorf("SelText(%+v) = %q", x, got)
			}
			continue
		}
		parts := writtenSel(x, d.otherQuotes)
		if x.Id == "" && !x.Steps[0].Deep && d.below(2) == 0 {
			parts = append([]string{"/"}, parts...)
		}
		form := spacedOut(parts, func() string { return d.some(2, "", " ") })
		if len(form) > impl.MaxSel {
			wantNoSel(t, form)
			form = text
		}
		wantSel(t, x, text, form)
		back++
	}
	if back < 25000 {
		t.Errorf("only %d were short enough", back)
	}
}

// wild is any selector, right or not.
func (d *drawer) wild() impl.Sel {
	names := []string{"", "", "a", "p", "text", "a:b", "1", "x y", "sixteenletters_xy"}
	texts := []string{"", "", "v", "it's", "\"", "'\"", "\xff", "\x00"}
	var x impl.Sel
	if d.below(3) == 0 {
		x.Id = d.one(texts...)
	}
	for range d.below(4) {
		s := impl.Step{Deep: d.below(4) == 0, Kind: d.below(9), Pre: d.one(names[:d.below(len(names))+1]...), Local: d.one(names...)}
		for range max(0, d.below(7)-2) {
			s.Preds = append(s.Preds, impl.Pred{Kind: d.below(6), N: d.below(3) - d.below(2), Pre: d.one(names[:d.below(len(names))+1]...), Local: d.one(names...), Val: d.one(texts...)})
		}
		x.Steps = append(x.Steps, s)
	}
	return x
}

// What is right is what comes back of what would be written of it.
func TestSelOkAnotherWay(t *testing.T) {
	d, right := drawer(12), 0
	for range 200000 {
		x := d.wild()
		back, ok := plainSel(strings.Join(writtenSel(x, plainQuoted), ""))
		wantRightSel(t, ok && alikeSel(back, x), x)
		if ok && alikeSel(back, x) {
			right++
		}
	}
	if right < 5000 {
		t.Errorf("only %d were right", right)
	}
	// One field of a right one turned at a time.
	for range 20000 {
		x := d.sel()
		y := d.wild()
		if len(x.Steps) == 0 || len(y.Steps) == 0 {
			continue
		}
		i, s := d.below(len(x.Steps)), y.Steps[0]
		at := &x.Steps[i]
		switch d.below(6) {
		case 0:
			at.Kind = s.Kind
		case 1:
			at.Pre = s.Pre
		case 2:
			at.Local = s.Local
		case 3:
			at.Deep = !at.Deep
		case 4:
			at.Preds = append(at.Preds, s.Preds...)
		case 5:
			x.Steps = slices.Insert(x.Steps, i, s)
		}
		back, ok := plainSel(strings.Join(writtenSel(x, plainQuoted), ""))
		wantRightSel(t, ok && alikeSel(back, x), x)
	}
}

// unlikeSels are no two the same, right ones and others.
func unlikeSels() []impl.Sel {
	l := []impl.Sel{sel(""), sel("i"), sel("j"), sel("", elStep("a")), sel("i", elStep("a")), sel("", elStep("a"), elStep("b")), sel("", elStep("b"), elStep("a")), sel("", elStep("a"), elStep("a")), sel("", elStep("b"))}
	step := impl.Step{Deep: true, Kind: impl.SlEl, Pre: "p", Local: "l", Preds: []impl.Pred{{Kind: impl.PdAttr, N: 7, Pre: "q", Local: "m", Val: "v"}, nth(2)}}
	turn := func(do func(*impl.Step)) {
		s := step
		s.Preds = slices.Clone(step.Preds)
		do(&s)
		l = append(l, sel("", s), sel("i", s), sel("", elStep("a"), s), sel("", s, elStep("a")))
	}
	turn(func(s *impl.Step) {})
	turn(func(s *impl.Step) { s.Deep = false })
	turn(func(s *impl.Step) { s.Kind = impl.SlAny })
	turn(func(s *impl.Step) { s.Kind = math.MinInt })
	turn(func(s *impl.Step) { s.Pre = "" })
	turn(func(s *impl.Step) { s.Local = "L" })
	turn(func(s *impl.Step) { s.Pre, s.Local = "l", "p" })
	turn(func(s *impl.Step) { s.Pre, s.Local = "", "p:l" })
	turn(func(s *impl.Step) { s.Pre, s.Local = "1", "2" })
	turn(func(s *impl.Step) { s.Pre, s.Local = "2", "1" })
	turn(func(s *impl.Step) { s.Pre, s.Local = "", "" })
	turn(func(s *impl.Step) { s.Preds = nil })
	turn(func(s *impl.Step) { s.Preds = s.Preds[:1] })
	turn(func(s *impl.Step) { s.Preds = s.Preds[1:] })
	turn(func(s *impl.Step) { slices.Reverse(s.Preds) })
	turn(func(s *impl.Step) { s.Preds = append(s.Preds, nth(2)) })
	turn(func(s *impl.Step) { s.Preds = append(s.Preds, impl.Pred{}) })
	turn(func(s *impl.Step) { s.Preds[0].Kind = impl.PdKid })
	turn(func(s *impl.Step) { s.Preds[0].N = 8 })
	turn(func(s *impl.Step) { s.Preds[0].Pre = "" })
	turn(func(s *impl.Step) { s.Preds[0].Local = "" })
	turn(func(s *impl.Step) { s.Preds[0].Val = "V" })
	turn(func(s *impl.Step) { s.Preds[0].Pre, s.Preds[0].Val = "v", "q" })
	turn(func(s *impl.Step) { s.Preds[1].N = 3 })
	return append(l, sel("", impl.Step{}), sel("", impl.Step{}, impl.Step{}), sel("", deep(impl.Step{})), sel("\xff"), sel("'\""), sel("I"))
}

func TestSameSel(t *testing.T) {
	l, again := unlikeSels(), unlikeSels()
	for i, a := range l {
		for j, b := range again {
			if got := impl.SameSel(a, b); got != (i == j) {
				t.Errorf("SameSel(%+v, %+v) = %v", a, b, got)
			}
		}
		if !impl.SameSel(a, bareSel(a)) || !impl.SameSel(bareSel(a), a) {
			t.Errorf("%+v is not the same as itself", a)
		}
	}
	// An empty list and none are the same.
	none, empty := impl.Step{Kind: impl.SlAny}, impl.Step{Kind: impl.SlAny, Preds: []impl.Pred{}}
	for _, x := range [][2]impl.Sel{{{}, {Steps: []impl.Step{}}}, {sel("i"), {Id: "i", Steps: []impl.Step{}}}, {sel("", none), sel("", empty)}, {sel("i", none, empty), sel("i", empty, none)}} {
		if !impl.SameSel(x[0], x[1]) || !impl.SameSel(x[1], x[0]) || impl.SelText(x[0]) != impl.SelText(x[1]) || impl.SelOk(x[0]) != impl.SelOk(x[1]) {
			t.Errorf("%+v and %+v", x[0], x[1])
		}
	}
}

// roomySel has wrong ones behind the ends of its lists.
func roomySel() impl.Sel {
	preds := []impl.Pred{attrIs("k", "v"), nth(2), nth(0), {Kind: 9}}
	steps := []impl.Step{elStep("a", preds[:2]...), {Kind: impl.SlAny, Deep: true, Preds: preds[1:1]}, {Kind: 9}, elStep("1")}
	return sel("i", steps[:2]...)
}

// wholeSel is a selector with all that stands behind the ends of its lists.
func wholeSel(x impl.Sel) impl.Sel {
	x.Steps = x.Steps[:cap(x.Steps)]
	x = bareSel(x)
	for i, s := range roomySel().Steps {
		x.Steps[i].Preds = append([]impl.Pred(nil), s.Preds[:cap(s.Preds)]...)
	}
	return x
}

func TestSelsAreLeftAlone(t *testing.T) {
	x, y := roomySel(), roomySel()
	steps, preds, more := x.Steps[:4], x.Steps[0].Preds[:4], x.Steps[1].Preds[:3]
	before := bareSel(impl.Sel{Steps: steps})
	predsBefore, moreBefore := slices.Clone(preds), slices.Clone(more)
	// What lies behind a list's end is not read.
	wantSel(t, x, "id('i')/a[@k='v'][2]//*")
	y.Steps[:4][2], y.Steps[:4][3], y.Steps[0].Preds[:4][3] = elStep("z"), anyStep(), nth(3)
	if !impl.SameSel(x, y) || !impl.SameSel(y, x) {
		t.Error("what lies behind a list's end was held against each other")
	}
	impl.SelOk(x)
	impl.SelText(x)
	impl.SameSel(x, x)
	if !reflect.DeepEqual(bareSel(impl.Sel{Steps: steps}), before) || !slices.Equal(preds, predsBefore) || !slices.Equal(more, moreBefore) {
		t.Errorf("of %+v was made %+v", before, x)
	}
	for _, x := range unlikeSels() {
		before := bareSel(x)
		impl.SelOk(x)
		impl.SelText(x)
		impl.SameSel(x, x)
		if !alikeSel(x, before) {
			t.Errorf("of %+v was made %+v", before, x)
		}
	}
}

func selMemory(x impl.Sel) []memory {
	l := memoryOf(x.Steps)
	for _, s := range x.Steps {
		l = append(l, memoryOf(s.Preds)...)
	}
	return l
}

func TestParsedSelsShareNothing(t *testing.T) {
	for _, s := range append([]string{"a[1]/b[2][3]/c[1][1][1]/*", "a/b/c", "a[1]/b[1]/c[1]/d[1]/e[1]/f[1]/g[1]/h[1]", "a[1][1]/b[1][1]/c[1][1]"}, someSelTexts...) {
		x, _ := impl.ParseSel(s)
		again, ok := impl.ParseSel(s)
		before := bareSel(again)
		if !ok || !impl.SameSel(x, again) {
			t.Errorf("%q is not read alike twice: %+v, %+v", s, x, again)
		}
		wantApart(t, slices.Concat(selMemory(x), selMemory(again)))
		// A step, or a Pred, that is put behind a list comes to stand in no other.
		for i := range again.Steps {
			_ = append(again.Steps[i].Preds, nth(7), nth(7), nth(7), nth(7))
			_ = append(x.Steps[i].Preds, nth(7), nth(7), nth(7), nth(7))
		}
		_ = append(x.Steps, anyStep(), anyStep(), anyStep(), anyStep())
		if !alikeSel(x, before) || !alikeSel(again, before) {
			t.Errorf("what was put behind a list is seen: %+v, %+v, want %+v", x, again, before)
		}
		// Nor is what is written into one answer seen in another.
		for i := range x.Steps {
			for j := range x.Steps[i].Preds {
				x.Steps[i].Preds[j] = impl.Pred{Kind: 9}
			}
			x.Steps[i] = impl.Step{Kind: 9}
		}
		if !alikeSel(again, before) {
			t.Errorf("what is written into one answer is seen in the other: %+v", again)
		}
		// What was refused leaves nothing behind.
		wantNoSel(t, s+"[")
		wantParsed(t, s, before)
	}
}
