package tests

import (
	"math"
	"slices"
	"testing"

	"loop.example/g00484/impl"
)

// place is the path of these numbers, with room behind it.
func place(numbers ...int) []int {
	return append(make([]int, 0, len(numbers)+4), numbers...)
}

// strangeNumbers are of no Kid, how many there may be.
var strangeNumbers = []int{-1, -2, math.MinInt, math.MinInt + 1, math.MaxInt, math.MaxInt - 1, 1 << 32, -(1 << 32), 1 << 31, 256, 1000000}

// wantOwn asks that what is answered shares nothing with what was handed in, nor within itself.
func wantOwn(t *testing.T, answered []memory, handed ...[]memory) {
	t.Helper()
	wantApart(t, answered)
	for _, a := range answered {
		for _, h := range slices.Concat(handed...) {
			if a.from < h.to && h.from < a.to {
				t.Errorf("what is answered shares memory with what was handed in: %x and %x", a, h)
			}
		}
	}
}

func wantAt(t *testing.T, n impl.Node, path []int, want impl.Node) {
	t.Helper()
	before, pathBefore := bare(n), slices.Clone(path[:cap(path)])
	got, ok := impl.NodeAt(n, path)
	if !ok || !alike([]impl.Node{got}, []impl.Node{want}) {
		t.Errorf("NodeAt(%+v, %v) = %+v, %v, want %+v", n, path, got, ok, want)
	}
	if !alike([]impl.Node{n}, []impl.Node{before}) || !slices.Equal(path[:cap(path)], pathBefore) {
		t.Errorf("of %+v and %v was made %+v and %v", before, pathBefore, n, path)
	}
	wantOwn(t, nodeMemory(got), nodeMemory(n))
}

func wantNothingAt(t *testing.T, n impl.Node, path []int) {
	t.Helper()
	if got, ok := impl.NodeAt(n, path); ok || !alike([]impl.Node{got}, []impl.Node{{}}) {
		t.Errorf("NodeAt(%+v, %v) = %+v, %v", n, path, got, ok)
	}
}

// wantTurned holds what came of n against what is wanted, and asks that n, path and l are as they were.
func wantTurned(t *testing.T, turn func(n impl.Node, path []int, l []impl.Node) (impl.Node, bool), n impl.Node, path []int, l []impl.Node, want impl.Node, wantOk bool) {
	t.Helper()
	before, pathBefore, listBefore := bare(n), slices.Clone(path[:cap(path)]), bareAll(l[:cap(l)])
	got, ok := turn(n, path, l)
	if ok != wantOk || !alike([]impl.Node{got}, []impl.Node{want}) {
		t.Errorf("of %+v, at %v, with %+v, came %+v, %v, want %+v, %v", n, path, l, got, ok, want, wantOk)
	}
	if !alike([]impl.Node{n}, []impl.Node{before}) || !slices.Equal(path[:cap(path)], pathBefore) || !alike(l[:cap(l)], listBefore) {
		t.Errorf("of %+v, %v and %+v was made %+v, %v and %+v", before, pathBefore, listBefore, n, path, l)
	}
	wantOwn(t, nodeMemory(got), nodeMemory(n), nodeMemory(impl.Node{Kids: l}))
}

func wantPut(t *testing.T, n impl.Node, path []int, l []impl.Node, want impl.Node) {
	t.Helper()
	wantTurned(t, impl.PutAt, n, path, l, want, true)
}

func wantNoPut(t *testing.T, n impl.Node, path []int, l []impl.Node) {
	t.Helper()
	wantTurned(t, impl.PutAt, n, path, l, n, false)
}

func inserting(i int) func(impl.Node, []int, []impl.Node) (impl.Node, bool) {
	return func(n impl.Node, path []int, l []impl.Node) (impl.Node, bool) {
		return impl.InsertAt(n, path, i, l)
	}
}

func wantInsert(t *testing.T, n impl.Node, path []int, i int, l []impl.Node, want impl.Node) {
	t.Helper()
	wantTurned(t, inserting(i), n, path, l, want, true)
}

func wantNoInsert(t *testing.T, n impl.Node, path []int, i int, l []impl.Node) {
	t.Helper()
	wantTurned(t, inserting(i), n, path, l, n, false)
}

// wantPlaces also asks that each of them leads to a node, and what lies about them does not.
func wantPlaces(t *testing.T, n impl.Node, want ...[]int) {
	t.Helper()
	before := bare(n)
	got := impl.Places(n)
	if !slices.EqualFunc(got, want, slices.Equal) {
		t.Errorf("Places(%+v) = %v, want %v", n, got, want)
	}
	if !alike([]impl.Node{n}, []impl.Node{before}) {
		t.Errorf("the node was %+v, and is %+v now", before, n)
	}
	for _, path := range got {
		at, ok := impl.NodeAt(n, path)
		if !ok {
			t.Errorf("%v is no place of %+v", path, n)
		}
		for _, i := range append([]int{len(at.Kids), len(at.Kids) + 1}, strangeNumbers...) {
			wantNothingAt(t, n, append(slices.Clone(path), i))
		}
	}
}

// house is a tree with texts beside what is none, three deep.
func house() impl.Node {
	return doc(note("n"), el("a", txt("x"), el("b", el("c"), note("m"), txt("y")), txt("z"), el("d")), told("t", "go"))
}

func TestNodeAt(t *testing.T) {
	h := house()
	wantAt(t, h, nil, h)
	wantAt(t, h, []int{}, h)
	wantAt(t, h, place(0), note("n"))
	wantAt(t, h, place(1), h.Kids[1])
	wantAt(t, h, place(2), told("t", "go"))
	wantAt(t, h, place(1, 0), txt("x"))
	wantAt(t, h, place(1, 1), el("b", el("c"), note("m"), txt("y")))
	wantAt(t, h, place(1, 3), el("d"))
	wantAt(t, h, place(1, 1, 0), el("c"))
	wantAt(t, h, place(1, 1, 1), note("m"))
	wantAt(t, h, place(1, 1, 2), txt("y"))
	for _, n := range slices.Concat(oneOfEach(), manyNodes(), roomy(), wrongNodes()) {
		wantAt(t, n, nil, n)
		wantAt(t, doc(n), place(0), n)
		wantAt(t, el("a", el("b", txt("x"), n)), place(0, 1), n)
	}
}

func TestNodeAtBeyond(t *testing.T) {
	h := house()
	for _, path := range [][]int{{3}, {4}, {0, 0}, {2, 0}, {1, 4}, {1, 0, 0}, {1, 3, 0}, {1, 1, 3}, {1, 1, 0, 0}, {1, 1, 1, 0}, {3, 0}, {3, 0, 0}, {1, 4, 0}, {1, 1, 2, 0, 0}, {0, 1, 1}} {
		wantNothingAt(t, h, path)
	}
	for _, i := range strangeNumbers {
		for _, path := range [][]int{{i}, {i, 1, 0}, {1, i}, {1, i, 0}, {1, 1, i}, {1, 1, 0, i}, {i, i, i}, {1, 1, 2, i}} {
			wantNothingAt(t, h, path)
			wantNothingAt(t, impl.Node{}, path)
		}
	}
	wantNothingAt(t, impl.Node{}, place(0))
	// What lies behind a list's end is no Kid.
	l := []impl.Node{txt("x"), txt("behind"), txt("behind")}[:1]
	wantNothingAt(t, el("a", l...), place(1))
	wantNothingAt(t, doc(el("a", l...)), place(0, 1))
	// Nor does a path go on behind its end.
	wantAt(t, h, place(1, 1, 0)[:1], h.Kids[1])
	wantAt(t, h, place(9)[:0], h)
}

func TestVeryLongPaths(t *testing.T) {
	deep := 3000
	n, long := chain(deep, txt("x")), make([]int, deep)
	wantAt(t, n, long, txt("x"))
	wantAt(t, n, long[:deep-1], el("a", txt("x")))
	wantNothingAt(t, n, append(slices.Clone(long), 0))
	wantNothingAt(t, n, make([]int, 1000000))
	for _, path := range [][]int{long[:deep-1], long} {
		if got, ok := impl.PutAt(n, path, nil); !ok || impl.CountOf(got) != len(path) {
			t.Errorf("PutAt of %d numbers: %d nodes, %v", len(path), impl.CountOf(got), ok)
		}
	}
	if got, ok := impl.InsertAt(n, long[:deep-1], 1, []impl.Node{el("b")}); !ok || impl.CountOf(got) != deep+2 {
		t.Errorf("InsertAt: %d nodes, %v", impl.CountOf(got), ok)
	}
	for _, path := range [][]int{append(slices.Clone(long), 0), make([]int, 1000000)} {
		if got, ok := impl.PutAt(n, path, nil); ok || !impl.SameNode(got, n) {
			t.Errorf("PutAt of %d numbers: %v", len(path), ok)
		}
		if got, ok := impl.InsertAt(n, path, 0, nil); ok || !impl.SameNode(got, n) {
			t.Errorf("InsertAt of %d numbers: %v", len(path), ok)
		}
	}
	if got := impl.Places(n); len(got) != deep+1 || len(got[deep]) != deep {
		t.Errorf("Places: %d", len(got))
	}
}

func TestPutAt(t *testing.T) {
	b := el("b", el("c"), note("m"), txt("y"))
	put := func(kids ...impl.Node) impl.Node { return doc(note("n"), el("a", kids...), told("t", "go")) }
	x, z, d, p, q := txt("x"), txt("z"), el("d"), el("p", txt("p")), note("q")
	none, one, two := []impl.Node{}, []impl.Node{p}, []impl.Node{p, q}
	// The first, those between, and the last.
	wantPut(t, house(), place(1, 0), none, put(b, z, d))
	wantPut(t, house(), place(1, 0), one, put(p, b, z, d))
	wantPut(t, house(), place(1, 0), two, put(p, q, b, z, d))
	wantPut(t, house(), place(1, 1), one, put(x, p, z, d))
	wantPut(t, house(), place(1, 1), two, put(x, p, q, z, d))
	wantPut(t, house(), place(1, 2), none, put(x, b, d))
	wantPut(t, house(), place(1, 2), two, put(x, b, p, q, d))
	wantPut(t, house(), place(1, 3), none, put(x, b, z))
	wantPut(t, house(), place(1, 3), one, put(x, b, z, p))
	wantPut(t, house(), place(1, 3), two, put(x, b, z, p, q))
	wantPut(t, house(), place(1, 3), nil, put(x, b, z))
	// Far below.
	wantPut(t, house(), place(1, 1, 0), none, put(x, el("b", note("m"), txt("y")), z, d))
	wantPut(t, house(), place(1, 1, 0), one, put(x, el("b", p, note("m"), txt("y")), z, d))
	wantPut(t, house(), place(1, 1, 1), two, put(x, el("b", el("c"), p, q, txt("y")), z, d))
	wantPut(t, house(), place(1, 1, 2), two, put(x, el("b", el("c"), note("m"), p, q), z, d))
	// In the whole text.
	wantPut(t, house(), place(0), none, doc(house().Kids[1:]...))
	wantPut(t, house(), place(2), two, doc(note("n"), house().Kids[1], p, q))
	wantPut(t, house(), place(1), one, doc(note("n"), p, told("t", "go")))
	wantPut(t, doc(el("a")), place(0), one, doc(p))
	wantPut(t, chain(8, x), place(0, 0, 0, 0, 0, 0, 0, 0), one, chain(8, p))
}

func TestPutAtOfTexts(t *testing.T) {
	b, n := el("b"), note("n")
	// Beside one behind, one ahead, and between two.
	wantPut(t, el("a", b, txt("x")), place(0), []impl.Node{txt("y")}, el("a", txt("yx")))
	wantPut(t, el("a", txt("x"), b), place(1), []impl.Node{txt("y")}, el("a", txt("xy")))
	wantPut(t, el("a", txt("x"), b, txt("z")), place(1), []impl.Node{txt("y")}, el("a", txt("xyz")))
	// In the place of a text there is nothing to stand beside.
	wantPut(t, el("a", b, txt("x"), b), place(1), []impl.Node{txt("y")}, el("a", b, txt("y"), b))
	// What stood between two is gone.
	wantPut(t, el("a", txt("x"), b, txt("z")), place(1), nil, el("a", txt("xz")))
	wantPut(t, el("a", txt("x"), n, txt("z"), b), place(1), nil, el("a", txt("xz"), b))
	wantPut(t, doc(el("a", txt("x"), told("t", ""), txt("z"))), place(0, 1), nil, doc(el("a", txt("xz"))))
	// Several, at both ends, or just at one.
	wantPut(t, el("a", txt("x"), b, txt("z")), place(1), []impl.Node{txt("1"), n, txt("2")}, el("a", txt("x1"), n, txt("2z")))
	wantPut(t, el("a", txt("x"), b, txt("z")), place(1), []impl.Node{n, txt("2")}, el("a", txt("x"), n, txt("2z")))
	wantPut(t, el("a", txt("x"), b, txt("z")), place(1), []impl.Node{txt("1"), n}, el("a", txt("x1"), n, txt("z")))
	wantPut(t, el("a", b), place(0), []impl.Node{txt("1"), txt("2"), txt("3")}, el("a", txt("123")))
	// Empty ones are none.
	wantPut(t, el("a", b), place(0), []impl.Node{txt("")}, el("a"))
	wantPut(t, el("a", txt("x"), b, txt("z")), place(1), []impl.Node{txt("")}, el("a", txt("xz")))
	wantPut(t, el("a", txt("x"), b, txt("z")), place(1), []impl.Node{txt(""), n, txt("")}, el("a", txt("x"), n, txt("z")))
	wantPut(t, el("a", txt(""), b, txt("")), place(1), []impl.Node{n}, el("a", n))
	wantPut(t, el("a", txt(""), b), place(0), []impl.Node{txt("")}, el("a", b))
	// Merged are all the Kids, also where nothing came.
	wantPut(t, el("a", txt("1"), txt("2"), n, b, txt("3"), txt(""), txt("4")), place(3), []impl.Node{n}, el("a", txt("12"), n, n, txt("34")))
	wantPut(t, el("a", txt("1"), txt("2"), txt("3")), place(1), nil, el("a", txt("13")))
	wantPut(t, el("a", txt("1"), txt("2"), txt("3")), place(1), []impl.Node{b}, el("a", txt("1"), b, txt("3")))
	// A text in the whole text, too.
	wantPut(t, doc(txt("x"), b, txt("z")), place(1), []impl.Node{txt("y")}, doc(txt("xyz")))
}

// loose is a node with texts beside each other, and an empty one.
func loose(kids ...impl.Node) impl.Node {
	return el("l", append([]impl.Node{txt("1"), txt("2"), txt("")}, kids...)...)
}

// What is not turned is not Merged: neither further up, nor further down, nor beside, nor in what comes.
func TestMergedAreTheKidsOfWhatIsTurnedAlone(t *testing.T) {
	b := el("b")
	up := func(n impl.Node) impl.Node { return doc(txt(""), txt("x"), txt("y"), loose(loose(), n, loose())) }
	down := loose(loose(b))
	wantPut(t, up(loose(down, b)), place(3, 4, 4), []impl.Node{down}, up(el("l", txt("12"), down, down)))
	wantPut(t, up(loose(down, b)), place(3, 4, 4), nil, up(el("l", txt("12"), down)))
	wantInsert(t, up(loose(down)), place(3, 4), 4, []impl.Node{down}, up(el("l", txt("12"), down, down)))
	wantInsert(t, up(loose(down)), place(3, 4), 1, nil, up(el("l", txt("12"), down)))
	// Where nothing is turned, nothing is Merged.
	for _, path := range [][]int{nil, {4}, {3, 4, 9}, {3, 4, -1}, {0, 0}, {3, 4, 0, 0}} {
		wantNoPut(t, up(loose(down)), path, nil)
		wantNoPut(t, up(loose(down)), path, []impl.Node{txt("x"), txt("")})
	}
	for _, path := range [][]int{{4}, {3, 4, 9}, {3, 4, -1}, {0, 0}, {3, 4, 0, 0}, {0}, {3, 4, 2}} {
		wantNoInsert(t, up(loose(down)), path, 0, nil)
		wantNoInsert(t, up(loose(down)), path, 0, []impl.Node{txt("x"), txt("")})
	}
	wantNoInsert(t, up(loose(down)), place(3, 4), 5, nil)
	wantNoInsert(t, up(loose(down)), place(3, 4), -1, nil)
}

func TestNothingToPutAt(t *testing.T) {
	l := []impl.Node{el("p"), txt("q")}
	for _, n := range slices.Concat([]impl.Node{{}, house()}, oneOfEach(), manyNodes(), roomy(), wrongNodes()) {
		for _, list := range [][]impl.Node{nil, l, {txt("")}} {
			wantNoPut(t, n, nil, list)
			wantNoPut(t, n, place(), list)
			wantNoPut(t, n, place(len(n.Kids)), list)
			wantNoPut(t, n, place(len(n.Kids)+1), list)
			wantNoPut(t, n, place(len(n.Kids), 0), list)
			wantNoInsert(t, n, place(len(n.Kids)), 0, list)
		}
	}
	for _, i := range strangeNumbers {
		for _, path := range [][]int{{i}, {i, 0}, {1, i}, {1, i, 0}, {1, 1, i}, {1, 1, 0, i}, {i, i}, {0, i}} {
			wantNoPut(t, house(), path, l)
			wantNoPut(t, house(), path, nil)
			for _, j := range []int{0, 1, i} {
				wantNoInsert(t, house(), path, j, l)
				wantNoInsert(t, house(), path, j, nil)
			}
		}
	}
	for _, path := range [][]int{{3}, {0, 0}, {2, 0}, {1, 4}, {1, 0, 0}, {1, 3, 0}, {1, 1, 3}, {1, 1, 2, 0}, {3, 0}, {1, 4, 0}, {1, 1, 2, 0, 0}} {
		wantNoPut(t, house(), path, l)
		wantNoInsert(t, house(), path, 0, l)
	}
	// Neither is there a Kid behind a list's end.
	wantNoPut(t, el("a", []impl.Node{txt("x"), el("behind")}[:1]...), place(1), l)
	wantNoPut(t, el("a", []impl.Node{txt("x"), el("behind", l...)}[:1]...), place(1, 0), l)
	wantNoInsert(t, el("a", []impl.Node{txt("x"), el("behind")}[:1]...), place(1), 0, l)
	wantNoInsert(t, el("a", []impl.Node{txt("x"), el("behind")}[:1]...), nil, 2, l)
}

func TestInsertAt(t *testing.T) {
	b := el("b", el("c"), note("m"), txt("y"))
	in := func(kids ...impl.Node) impl.Node { return doc(note("n"), el("a", kids...), told("t", "go")) }
	x, z, d, p, q := txt("x"), txt("z"), el("d"), el("p", txt("p")), note("q")
	none, one, two := []impl.Node{}, []impl.Node{p}, []impl.Node{p, q}
	// Ahead of the first, between two, and behind all.
	for i := range 5 {
		wantInsert(t, house(), place(1), i, none, house())
		wantInsert(t, house(), place(1), i, nil, house())
	}
	wantInsert(t, house(), place(1), 0, one, in(p, x, b, z, d))
	wantInsert(t, house(), place(1), 0, two, in(p, q, x, b, z, d))
	wantInsert(t, house(), place(1), 1, one, in(x, p, b, z, d))
	wantInsert(t, house(), place(1), 2, two, in(x, b, p, q, z, d))
	wantInsert(t, house(), place(1), 3, one, in(x, b, z, p, d))
	wantInsert(t, house(), place(1), 4, one, in(x, b, z, d, p))
	wantInsert(t, house(), place(1), 4, two, in(x, b, z, d, p, q))
	// Further below, and in what has no Kids.
	wantInsert(t, house(), place(1, 1), 0, one, in(x, el("b", p, el("c"), note("m"), txt("y")), z, d))
	wantInsert(t, house(), place(1, 1), 3, two, in(x, el("b", el("c"), note("m"), txt("y"), p, q), z, d))
	wantInsert(t, house(), place(1, 1, 0), 0, two, in(x, el("b", el("c", p, q), note("m"), txt("y")), z, d))
	wantInsert(t, house(), place(1, 3), 0, one, in(x, b, z, el("d", p)))
	wantInsert(t, house(), place(1, 3), 0, none, house())
	// In the whole text, and in an element that is all there is.
	k := house().Kids
	for _, path := range [][]int{nil, {}} {
		wantInsert(t, house(), path, 0, two, doc(p, q, k[0], k[1], k[2]))
		wantInsert(t, house(), path, 1, one, doc(k[0], p, k[1], k[2]))
		wantInsert(t, house(), path, 3, one, doc(k[0], k[1], k[2], p))
		wantInsert(t, house(), path, 2, none, house())
		wantInsert(t, el("a", x), path, 0, two, el("a", p, q, x))
		wantInsert(t, el("a", x), path, 1, two, el("a", x, p, q))
		wantInsert(t, el("a"), path, 0, two, el("a", p, q))
		wantInsert(t, doc(), path, 0, two, doc(p, q))
		wantInsert(t, doc(), path, 0, none, doc())
	}
	wantInsert(t, impl.Node{}, nil, 0, one, doc(p))
}

func TestInsertAtOfTexts(t *testing.T) {
	b, n, y := el("b"), note("n"), []impl.Node{txt("y")}
	// Ahead of one, behind one, between two, beside none.
	wantInsert(t, el("a", txt("x"), b), nil, 0, y, el("a", txt("yx"), b))
	wantInsert(t, el("a", txt("x"), b), nil, 1, y, el("a", txt("xy"), b))
	wantInsert(t, el("a", txt("x"), b), nil, 2, y, el("a", txt("x"), b, txt("y")))
	wantInsert(t, el("a", b, txt("x")), nil, 0, y, el("a", txt("y"), b, txt("x")))
	wantInsert(t, el("a", b, txt("x")), nil, 1, y, el("a", b, txt("yx")))
	wantInsert(t, el("a", b, txt("x")), nil, 2, y, el("a", b, txt("xy")))
	wantInsert(t, el("a", txt("x"), txt("z")), nil, 1, y, el("a", txt("xyz")))
	wantInsert(t, el("a", b, n), nil, 1, y, el("a", b, txt("y"), n))
	wantInsert(t, doc(el("a", txt("x"), b)), place(0), 1, y, doc(el("a", txt("xy"), b)))
	wantInsert(t, doc(txt("x"), b), nil, 1, y, doc(txt("xy"), b))
	// Several.
	wantInsert(t, el("a", txt("x"), b), nil, 1, []impl.Node{txt("1"), n, txt("2")}, el("a", txt("x1"), n, txt("2"), b))
	wantInsert(t, el("a", b, txt("x")), nil, 1, []impl.Node{txt("1"), n, txt("2")}, el("a", b, txt("1"), n, txt("2x")))
	wantInsert(t, el("a", txt("x"), txt("z")), nil, 1, []impl.Node{txt("1"), n, txt("2")}, el("a", txt("x1"), n, txt("2z")))
	wantInsert(t, el("a"), nil, 0, []impl.Node{txt("1"), txt("2"), txt("3")}, el("a", txt("123")))
	// Empty ones are none, and part nothing.
	wantInsert(t, el("a", txt("x"), b), nil, 1, []impl.Node{txt("")}, el("a", txt("x"), b))
	wantInsert(t, el("a"), nil, 0, []impl.Node{txt(""), txt("")}, el("a"))
	wantInsert(t, el("a", txt(""), b), nil, 0, nil, el("a", b))
	wantInsert(t, el("a", txt("x"), txt(""), txt("z")), nil, 2, nil, el("a", txt("xz")))
	wantInsert(t, el("a", txt("x"), txt("z")), nil, 1, []impl.Node{txt("")}, el("a", txt("xz")))
	// i counts the Kids as they stand there, not as they are when they are Merged.
	wantInsert(t, el("a", txt("1"), txt("2"), txt(""), b, n), nil, 4, y, el("a", txt("12"), b, txt("y"), n))
	wantInsert(t, el("a", txt("1"), txt("2"), txt(""), b), nil, 4, []impl.Node{n}, el("a", txt("12"), b, n))
	wantInsert(t, el("a", txt("1"), txt("2"), txt("3")), nil, 1, []impl.Node{n}, el("a", txt("1"), n, txt("23")))
	wantInsert(t, el("a", txt("1"), txt(""), txt("3")), nil, 3, y, el("a", txt("13y")))
	wantNoInsert(t, el("a", txt("1"), txt("2")), nil, 3, y)
}

func TestInsertAtOfStrangeNumbers(t *testing.T) {
	l := []impl.Node{el("p"), txt("q")}
	for _, n := range []impl.Node{{}, doc(), el("a"), el("a", txt("x")), doc(el("a"), note("n")), house()} {
		for _, path := range impl.Places(n) {
			at, _ := impl.NodeAt(n, path)
			for _, i := range append([]int{len(at.Kids) + 1, len(at.Kids) + 2}, strangeNumbers...) {
				wantNoInsert(t, n, path, i, l)
				wantNoInsert(t, n, path, i, nil)
			}
		}
	}
}

// How many there are counts, not for how many there is room.
func TestPlacesBehindManyKids(t *testing.T) {
	l := []impl.Node{note("n")}
	for many := range 70 {
		n := flat(many + 1)
		kids := slices.Clone(n.Kids)
		wantInsert(t, n, nil, many, l, el("a", append(kids, l...)...))
		for more := 1; more < 6; more++ {
			wantNoInsert(t, n, nil, many+more, l)
			wantNoInsert(t, doc(n), place(0), many+more, l)
			wantNoPut(t, n, place(many+more-1), l)
			wantNothingAt(t, n, place(many+more-1))
		}
	}
}

func TestInsertAtOfWhatMayNotHaveKids(t *testing.T) {
	l := []impl.Node{el("p"), txt("q")}
	kinds := append([]int{impl.NdText, impl.NdNote, impl.NdTold}, strangeKinds...)
	for _, kind := range kinds {
		for _, n := range []impl.Node{{Kind: kind}, {Kind: kind, Text: "x"}, {Kind: kind, Local: "a", Kids: []impl.Node{el("b"), txt("x")}}} {
			for i := range len(n.Kids) + 1 {
				for _, list := range [][]impl.Node{nil, l} {
					wantNoInsert(t, n, nil, i, list)
					wantNoInsert(t, el("a", n), place(0), i, list)
					wantNoInsert(t, doc(el("a", txt("x"), n)), place(0, 1), i, list)
				}
			}
		}
		// What stands below it is gone through like others, and so are its Kids, where one is put.
		n := impl.Node{Kind: kind, Text: "t", Kids: []impl.Node{el("b"), txt("x")}}
		turned := impl.Node{Kind: kind, Text: "t", Kids: []impl.Node{el("p"), txt("qx")}}
		wantAt(t, n, place(1), txt("x"))
		wantPut(t, n, place(0), l, turned)
		wantPut(t, doc(el("a", note("n"), n)), place(0, 1, 0), l, doc(el("a", note("n"), turned)))
		turned.Kids = []impl.Node{el("b", l...), txt("x")}
		wantInsert(t, n, place(0), 0, l, turned)
		wantInsert(t, doc(n), place(0, 0), 0, l, doc(turned))
		wantPlaces(t, doc(el("a", n)), nil, place(0), place(0, 0), place(0, 0, 0), place(0, 0, 1))
	}
	// A whole text within another one has Kids.
	wantInsert(t, el("a", doc(el("b"))), place(0), 1, l, el("a", doc(el("b"), el("p"), txt("q"))))
}

// What comes of it may be no right tree: that is not asked here.
func TestTurnedTreesNeedNotBeRight(t *testing.T) {
	tree := doc(el("a", txt("x")))
	wantPut(t, tree, place(0), nil, doc())
	wantPut(t, tree, place(0), []impl.Node{el("a"), el("b")}, doc(el("a"), el("b")))
	wantPut(t, tree, place(0), []impl.Node{txt("x")}, doc(txt("x")))
	wantInsert(t, tree, nil, 0, []impl.Node{el("b")}, doc(el("b"), el("a", txt("x"))))
	wantInsert(t, tree, nil, 1, []impl.Node{txt("b")}, doc(el("a", txt("x")), txt("b")))
	wantInsert(t, tree, place(0), 0, []impl.Node{elIn("p", "u")}, doc(el("a", elIn("p", "u"), txt("x"))))
	for _, n := range slices.Concat(wrongNodes(), manyNodes(), roomy()) {
		if n.Kind == impl.NdText {
			continue
		}
		wantPut(t, tree, place(0), []impl.Node{n}, doc(n))
		wantPut(t, tree, place(0, 0), []impl.Node{n, n}, doc(el("a", n, n)))
		wantInsert(t, tree, nil, 0, []impl.Node{n}, doc(n, el("a", txt("x"))))
		wantInsert(t, tree, place(0), 1, []impl.Node{n}, doc(el("a", txt("x"), n)))
		// What has wrong nodes beside it, or around it, is turned, too.
		wantPut(t, doc(n, el("a")), place(1), []impl.Node{note("n")}, doc(n, note("n")))
		wantInsert(t, doc(n, el("a")), place(1), 0, []impl.Node{note("n")}, doc(n, el("a", note("n"))))
	}
	// Many nodes, and many elements one within the other.
	var many []impl.Node
	for range 3 * impl.MaxNodes {
		many = append(many, el("b"), txt("x"))
	}
	wantPut(t, tree, place(0, 0), many, doc(el("a", many...)))
	wantInsert(t, chain(2*impl.MaxDeep), make([]int, 2*impl.MaxDeep-1), 0, many, chain(2*impl.MaxDeep, many...))
}

// A text that has what its kind does not name keeps it, as Merge has it.
func TestTextsWithMoreAreMergedLikewise(t *testing.T) {
	full, more := txt("x"), txt("y")
	full.Local, full.Attrs, full.Kids = "l", plainAttrs(1), []impl.Node{txt("1"), txt("2")}
	more.Local, more.Decls = "m", declsOf("p")
	both := full
	both.Text = "xy"
	wantPut(t, el("a", full, el("b"), more), place(1), nil, el("a", impl.Merge([]impl.Node{full, more})...))
	wantPut(t, el("a", full, el("b"), more), place(1), nil, el("a", both))
	wantInsert(t, el("a", full), nil, 1, []impl.Node{more}, el("a", both))
}

func TestPlaces(t *testing.T) {
	for _, n := range []impl.Node{{}, doc(), el("a"), txt("x"), note("n"), told("t", ""), {Kind: 7}, withAttrs(el("a"), plainAttrs(3)...), withDecls(el("a"), declsOf("p")...)} {
		wantPlaces(t, n, nil)
	}
	wantPlaces(t, doc(el("a")), nil, place(0))
	wantPlaces(t, el("a", txt("x"), note("n"), told("t", "")), nil, place(0), place(1), place(2))
	wantPlaces(t, chain(4), nil, place(0), place(0, 0), place(0, 0, 0))
	wantPlaces(t, chain(2, txt("x"), txt("")), nil, place(0), place(0, 0), place(0, 1))
	wantPlaces(t, el("a", el("b", txt("x"), el("c")), el("d"), el("e", txt("y"))), nil, place(0), place(0, 0), place(0, 1), place(1), place(2), place(2, 0))
	wantPlaces(t, house(), nil, place(0), place(1), place(1, 0), place(1, 1), place(1, 1, 0), place(1, 1, 1), place(1, 1, 2), place(1, 2), place(1, 3), place(2))
	// What is wrong has places likewise, and what lies behind a list's end has none.
	wantPlaces(t, impl.Node{Kind: -1, Kids: []impl.Node{doc(txt("")), {Kind: 9, Kids: []impl.Node{{}}}}}, nil, place(0), place(0, 0), place(1), place(1, 0))
	wantPlaces(t, el("a", []impl.Node{txt("x"), el("b"), el("behind")}[:2]...), nil, place(0), place(1))
	var want [][]int
	for i := range 200 {
		want = append(want, place(i))
	}
	wantPlaces(t, flat(201), append([][]int{nil}, want...)...)
}

// plainPlaces is another way to the same: a list of what is still to be gone through, the next at its end.
func plainPlaces(n impl.Node) [][]int {
	type open struct {
		path []int
		n    impl.Node
	}
	var out [][]int
	for l := []open{{nil, n}}; len(l) > 0; {
		last := l[len(l)-1]
		out, l = append(out, last.path), l[:len(l)-1]
		for i, k := range slices.Backward(last.n.Kids) {
			l = append(l, open{append(slices.Clone(last.path), i), k})
		}
	}
	return out
}

// plainTurned is another way to the same: it comes back from what stands there, and rebuilds each node on the way.
func plainTurned(n impl.Node, path []int, turn func(impl.Node) (impl.Node, bool)) (impl.Node, bool) {
	if len(path) == 0 {
		return turn(n)
	}
	if path[0] < 0 || len(n.Kids) <= path[0] {
		return n, false
	}
	kid, ok := plainTurned(n.Kids[path[0]], path[1:], turn)
	out := n
	out.Kids = slices.Concat(n.Kids[:path[0]], []impl.Node{kid}, n.Kids[path[0]+1:])
	return out, ok
}

func plainPut(n impl.Node, path []int, l []impl.Node) (impl.Node, bool) {
	if len(path) == 0 {
		return n, false
	}
	return plainTurned(n, path[:len(path)-1], func(at impl.Node) (impl.Node, bool) {
		i := path[len(path)-1]
		if i < 0 || i > len(at.Kids)-1 {
			return at, false
		}
		at.Kids = mergedOf(append(append(slices.Clone(at.Kids[:i]), l...), at.Kids[i+1:]...))
		return at, true
	})
}

func plainInsert(n impl.Node, path []int, i int, l []impl.Node) (impl.Node, bool) {
	return plainTurned(n, path, func(at impl.Node) (impl.Node, bool) {
		if at.Kind != impl.NdDoc && at.Kind != impl.NdEl || i < 0 || i > len(at.Kids) {
			return at, false
		}
		at.Kids = mergedOf(append(append(slices.Clone(at.Kids[:i]), l...), at.Kids[i:]...))
		return at, true
	})
}

// eachPath hands on every path of at most length of these numbers.
func eachPath(length int, of []int, do func([]int)) {
	var grow func([]int)
	grow = func(path []int) {
		do(path)
		for _, i := range of {
			if len(path) < length {
				grow(append(slices.Clone(path), i))
			}
		}
	}
	grow(nil)
}

// checkTurns holds all of the chapter that goes by a path against the other ways.
func checkTurns(t *testing.T, n impl.Node, path []int, l []impl.Node) {
	t.Helper()
	want, ok := plainPut(n, path, l)
	wantTurned(t, impl.PutAt, n, path, l, want, ok)
	for i := -1; i < 5; i++ {
		want, ok := plainInsert(n, path, i, l)
		wantTurned(t, inserting(i), n, path, l, want, ok)
	}
}

func TestTurnsOfAllShortLists(t *testing.T) {
	kids := []impl.Node{txt("x"), txt(""), el("b", txt("y"), txt("z")), note("n")}
	come := [][]impl.Node{nil, {txt("1")}, {el("c")}, {txt("1"), el("c", txt(""), txt("2")), txt("3")}, {txt(""), note("m")}}
	eachNodes(3, kids, func(k []impl.Node) {
		for _, n := range []impl.Node{el("a", k...), doc(k...), {Kind: impl.NdText, Text: "t", Kids: k}} {
			eachPath(2, []int{-1, 0, 1, 2, 3}, func(path []int) {
				for _, l := range come {
					checkTurns(t, n, path, l)
				}
			})
		}
	})
}

func TestPlacesOfAllShortLists(t *testing.T) {
	of := []impl.Node{txt(""), el("b"), el("c", txt("x"), el("d", note("n"), note("m")), txt("y")), {Kind: 8, Kids: []impl.Node{{}}}}
	eachNodes(4, of, func(k []impl.Node) {
		n := el("a", k...)
		got := impl.Places(n)
		if !slices.EqualFunc(got, plainPlaces(n), slices.Equal) {
			t.Errorf("Places(%+v) = %v, want %v", n, got, plainPlaces(n))
		}
		at := 0
		eachPath(3, []int{0, 1, 2, 3}, func(path []int) {
			// A path is of Places where it leads to a node, and just there.
			_, ok := impl.NodeAt(n, path)
			if ok != slices.ContainsFunc(got, func(p []int) bool { return slices.Equal(p, path) }) {
				t.Errorf("NodeAt(%+v, %v): %v", n, path, ok)
			}
			if ok {
				at++
			}
		})
		if at != len(got) {
			t.Errorf("Places(%+v) are %d, of %d paths", n, len(got), at)
		}
	})
}

// checkPlaces asks what promise 10 says of a tree without texts beside each other.
func checkPlaces(t *testing.T, n impl.Node) {
	t.Helper()
	places := impl.Places(n)
	nodes := 0
	for _, path := range places {
		at, ok := impl.NodeAt(n, path)
		if !ok {
			t.Errorf("%v is no place of %+v", path, n)
		}
		nodes += 1 + len(at.Attrs)
		checkPut(t, n, places, path, at)
	}
	// Each is beyond the one ahead, so that none is there twice; and that many there are.
	for i := 1; i < len(places); i++ {
		if slices.Compare(places[i-1], places[i]) >= 0 {
			t.Errorf("of Places(%+v) %v stands ahead of %v", n, places[i-1], places[i])
		}
	}
	if nodes != impl.CountOf(n) {
		t.Errorf("Places(%+v) = %v: %d nodes and Attrs", n, places, nodes)
	}
}

// checkPut asks that what is put in a place stands there, and all else as it stood.
func checkPut(t *testing.T, n impl.Node, places [][]int, path []int, at impl.Node) {
	t.Helper()
	comes := withAttrs(elIn("p", "u", txt("in it")), plainAttrs(2)...)
	if len(path) > 0 {
		got, ok := impl.PutAt(n, path, []impl.Node{comes})
		if !ok {
			t.Errorf("PutAt(%+v, %v) is false", n, path)
		}
		wantAt(t, got, path, comes)
		for _, other := range places {
			if kept, ok := impl.NodeAt(got, other); !impl.Under(other, path) && !impl.Under(path, other) {
				was, _ := impl.NodeAt(n, other)
				if !ok || !alike([]impl.Node{kept}, []impl.Node{was}) {
					t.Errorf("PutAt(%+v, %v): %v is %+v", n, path, other, kept)
				}
			}
		}
		// What stood there is put back.
		wantPut(t, got, path, []impl.Node{at}, n)
		wantPut(t, n, path, []impl.Node{at}, n)
	}
	for i := range len(at.Kids) + 1 {
		got, ok := impl.InsertAt(n, path, i, []impl.Node{comes})
		if !ok {
			if at.Kind == impl.NdDoc || at.Kind == impl.NdEl {
				t.Errorf("InsertAt(%+v, %v, %d) is false", n, path, i)
			}
			continue
		}
		below := append(slices.Clone(path), i)
		wantAt(t, got, below, comes)
		// What came is taken away again.
		wantPut(t, got, below, nil, n)
	}
}

func TestWhatIsPutStandsThere(t *testing.T) {
	checkPlaces(t, house())
	for _, n := range slices.Concat(oneOfEach(), rightNodes(), []impl.Node{chain(7, txt("x")), flat(9)}) {
		checkPlaces(t, n)
	}
	for _, x := range someTrees() {
		n, _, _ := impl.ReadTree(x.text())
		checkPlaces(t, n)
	}
	d := drawer(3)
	right := 0
	for range 300 {
		if n := d.tree(); impl.TreeOk(n) {
			right++
			checkPlaces(t, n)
		}
	}
	if right < 100 {
		t.Errorf("only %d of the trees were right", right)
	}
}

func TestDrawnTurns(t *testing.T) {
	d := drawer(4)
	for range 3000 {
		n, l := d.tree(), d.tree().Kids
		places := impl.Places(n)
		if !slices.EqualFunc(places, plainPlaces(n), slices.Equal) {
			t.Errorf("Places(%+v) = %v", n, places)
		}
		path := slices.Clone(places[d.below(len(places))])
		if d.below(4) == 0 {
			path = append(path, d.below(5)-1)
		}
		if d.below(3) == 0 {
			l = append(l, txt("x"), txt("y"))
		}
		checkTurns(t, n, path, l)
		checkTurns(t, n, path, append([]impl.Node{txt("x"), txt("")}, l...))
	}
}

func wantUnder(t *testing.T, a []int, b []int, under bool, same bool) {
	t.Helper()
	beforeA, beforeB := slices.Clone(a[:cap(a)]), slices.Clone(b[:cap(b)])
	if got := impl.Under(a, b); got != under {
		t.Errorf("Under(%v, %v) = %v", a, b, got)
	}
	if got := impl.SamePath(a, b); got != same {
		t.Errorf("SamePath(%v, %v) = %v", a, b, got)
	}
	if got := impl.SamePath(b, a); got != same {
		t.Errorf("SamePath(%v, %v) = %v", b, a, got)
	}
	if !slices.Equal(a[:cap(a)], beforeA) || !slices.Equal(b[:cap(b)], beforeB) {
		t.Errorf("of %v and %v was made %v and %v", beforeA, beforeB, a, b)
	}
}

func TestSamePathAndUnder(t *testing.T) {
	// Of none.
	for _, none := range [][]int{nil, {}, place(), place(1, 2)[:0]} {
		wantUnder(t, none, nil, true, true)
		wantUnder(t, nil, none, true, true)
		wantUnder(t, none, []int{}, true, true)
		wantUnder(t, place(0), none, true, false)
		wantUnder(t, place(1, 2, 3), none, true, false)
		wantUnder(t, none, place(0), false, false)
		wantUnder(t, none, place(1, 2, 3), false, false)
	}
	// The same, and one that goes on.
	wantUnder(t, place(0), place(0), true, true)
	wantUnder(t, place(3, 1, 2), place(3, 1, 2), true, true)
	wantUnder(t, place(1, 2), place(1), true, false)
	wantUnder(t, place(1), place(1, 2), false, false)
	wantUnder(t, place(1, 2, 3, 4), place(1, 2), true, false)
	wantUnder(t, place(1, 2), place(1, 2, 3, 4), false, false)
	wantUnder(t, place(0, 0), place(0), true, false)
	wantUnder(t, place(0), place(0, 0), false, false)
	// They part first, between, and last.
	wantUnder(t, place(2, 2, 3), place(1, 2, 3), false, false)
	wantUnder(t, place(1, 3, 3), place(1, 2, 3), false, false)
	wantUnder(t, place(1, 2, 4), place(1, 2, 3), false, false)
	wantUnder(t, place(1, 2, 4, 5), place(1, 2, 3), false, false)
	wantUnder(t, place(1, 3, 4, 5), place(1, 2), false, false)
	wantUnder(t, place(2, 1), place(1), false, false)
	wantUnder(t, place(1, 2), place(2), false, false)
	// What begins with another one at another place is not under it.
	wantUnder(t, place(1, 2, 3), place(2, 3), false, false)
	wantUnder(t, place(1, 1, 2), place(1, 2), false, false)
	// What lies behind the end does not count.
	wantUnder(t, place(1, 2, 3)[:2], place(1, 2, 4)[:2], true, true)
	wantUnder(t, place(1, 2, 3)[:1], place(1, 2), false, false)
	// Any numbers.
	for _, i := range strangeNumbers {
		wantUnder(t, place(i), place(i), true, true)
		wantUnder(t, place(i, 0), place(i), true, false)
		wantUnder(t, place(i), place(0), false, false)
		wantUnder(t, place(i, 1), place(i, 0), false, false)
		for _, j := range strangeNumbers {
			wantUnder(t, place(1, i), place(1, j), i == j, i == j)
		}
	}
	long := make([]int, 100000)
	wantUnder(t, long, slices.Clone(long), true, true)
	wantUnder(t, long, long[:99999:99999], true, false)
	wantUnder(t, long, append(make([]int, 99999), 1), false, false)
}

func TestUnderAllShortPaths(t *testing.T) {
	of := []int{0, 1, -1}
	eachPath(3, of, func(a []int) {
		eachPath(3, of, func(b []int) {
			// What goes on behind b is one of these.
			under := false
			eachPath(3, of, func(more []int) {
				under = under || slices.Equal(a, slices.Concat(b, more))
			})
			wantUnder(t, a, b, under, slices.Equal(a, b))
		})
	})
}

func TestPlacesShareNothing(t *testing.T) {
	for _, n := range []impl.Node{house(), chain(6, txt("x"), txt("y")), flat(40), el("a", roomy()...), {}} {
		want := plainPlaces(n)
		l, other := impl.Places(n), impl.Places(n)
		var all []memory
		for _, path := range slices.Concat(l, other) {
			all = append(all, memoryOf(path)...)
		}
		wantApart(t, append(all, slices.Concat(memoryOf(l), memoryOf(other))...))
		// A number that is put behind a path comes to stand in no other one.
		for _, path := range l {
			_ = append(path, -7, -8, -9)
		}
		if !slices.EqualFunc(l, want, slices.Equal) {
			t.Errorf("of Places was made %v, want %v", l, want)
		}
		for i, path := range l {
			l[i] = append(path, -7)
			for j := range path {
				path[j], l[i][j] = -9, -9
			}
			for j := i + 1; j < len(l); j++ {
				if !slices.Equal(l[j], want[j]) {
					t.Errorf("path %d is %v, when path %d is turned", j, l[j], i)
				}
			}
		}
		if !slices.EqualFunc(other, want, slices.Equal) || !slices.EqualFunc(impl.Places(n), want, slices.Equal) {
			t.Errorf("what is written into one answer is seen in another: %v", other)
		}
	}
}

func TestTurnedTreesShareNothing(t *testing.T) {
	whole := func(l []impl.Node) []impl.Node { return l[:cap(l)] }
	turns := []func(impl.Node, []impl.Node) (impl.Node, bool){
		func(n impl.Node, l []impl.Node) (impl.Node, bool) { return impl.NodeAt(n, place(2)) },
		func(n impl.Node, l []impl.Node) (impl.Node, bool) { return impl.NodeAt(n, nil) },
		func(n impl.Node, l []impl.Node) (impl.Node, bool) { return impl.PutAt(n, place(0), l) },
		func(n impl.Node, l []impl.Node) (impl.Node, bool) { return impl.PutAt(n, place(2, 1, 0), l) },
		func(n impl.Node, l []impl.Node) (impl.Node, bool) { return impl.PutAt(n, nil, l) },
		func(n impl.Node, l []impl.Node) (impl.Node, bool) { return impl.PutAt(n, place(9), l) },
		func(n impl.Node, l []impl.Node) (impl.Node, bool) { return impl.InsertAt(n, nil, 0, l) },
		func(n impl.Node, l []impl.Node) (impl.Node, bool) { return impl.InsertAt(n, nil, 5, l) },
		func(n impl.Node, l []impl.Node) (impl.Node, bool) { return impl.InsertAt(n, place(2, 1), 1, l) },
		func(n impl.Node, l []impl.Node) (impl.Node, bool) { return impl.InsertAt(n, place(0), 0, l) },
		func(n impl.Node, l []impl.Node) (impl.Node, bool) { return impl.InsertAt(n, nil, 6, l) },
	}
	for i, turn := range turns {
		n, l := withAttrs(el("a", roomy()...), plainAttrs(3)[:2]...), roomy()
		n.Kids = roomy()
		want, wantOk := turn(withAttrs(el("a", roomy()...), plainAttrs(2)...), roomy())
		got, ok := turn(n, l)
		again, _ := turn(n, l)
		if ok != wantOk || !alike([]impl.Node{got, again}, []impl.Node{want, want}) {
			t.Errorf("turn %d: %+v, then %+v", i, got, again)
		}
		wantOwn(t, slices.Concat(nodeMemory(got), nodeMemory(again)), nodeMemory(n), nodeMemory(impl.Node{Kids: l}))
		spoil([]impl.Node{got})
		for _, handed := range [][]impl.Node{n.Kids, l} {
			if !alike(whole(handed), whole(roomy())) || !alike(whole(handed[2].Kids), whole(roomy()[2].Kids)) || !slices.Equal(handed[2].Decls[:2], declsOf("r", "behind")) || !slices.Equal(handed[2].Attrs[:3], plainAttrs(3)) {
				t.Errorf("turn %d: what was handed in is %+v now", i, whole(handed))
			}
		}
		spoil(n.Kids)
		spoil(l)
		if !alike([]impl.Node{again}, []impl.Node{want}) {
			t.Errorf("turn %d: what is answered hangs on what is written later: %+v", i, again)
		}
	}
}

// What comes may be of the tree itself, and twice of the same list.
func TestTurnsOfATreeByItself(t *testing.T) {
	n := el("a", txt("x"), el("b", txt("y"), el("c")), txt("z"))
	for _, path := range impl.Places(n) {
		at, _ := impl.NodeAt(n, path)
		for _, l := range [][]impl.Node{n.Kids, n.Kids[1:2], n.Kids[1].Kids, {n}, {n, n}, n.Kids[:0]} {
			checkTurns(t, n, path, l)
			checkTurns(t, n, path, append([]impl.Node{at}, l...))
		}
	}
}

// A list of Kids that holds itself has no end, but what stands in it has a place.
func TestWhatStandsInAListThatHoldsItself(t *testing.T) {
	kids := []impl.Node{txt("x"), el("b"), el("c")}
	kids[1].Kids = kids
	n := el("a", kids...)
	for _, path := range [][]int{{0}, {1, 0}, {1, 1, 1, 1, 1, 1, 1, 1, 1, 0}} {
		wantTextAt(t, n, path)
	}
	long := make([]int, 10001)
	for i := range 10000 {
		long[i] = 1
	}
	wantTextAt(t, n, long)
	for _, path := range [][]int{{3}, {1, 1, 3}, {1, 1, 0, 0}, {1, -1}} {
		if got, ok := impl.NodeAt(n, path); ok || !alike([]impl.Node{got}, []impl.Node{{}}) {
			t.Errorf("NodeAt %v: %v", path, ok)
		}
	}
}

func wantTextAt(t *testing.T, n impl.Node, path []int) {
	t.Helper()
	if got, ok := impl.NodeAt(n, path); !ok || !alike([]impl.Node{got}, []impl.Node{txt("x")}) {
		t.Errorf("NodeAt of %d numbers: %v", len(path), ok)
	}
}
