package tests

import (
	"math"
	"slices"
	"strings"
	"testing"

	"loop.example/g00373/impl"
)

// loops tells the loops of words: of each its Head, its Up, then its Body, a semicolon between two loops.
func loops(text string) []impl.Loop {
	var out []impl.Loop
	if strings.TrimSpace(text) == "" {
		return out
	}
	for _, n := range lists(text) {
		out = append(out, impl.Loop{Head: n[0], Up: n[1], Body: n[2:]})
	}
	return out
}

func sameLoops(a []impl.Loop, b []impl.Loop) bool {
	return slices.EqualFunc(a, b, func(a impl.Loop, b impl.Loop) bool {
		return a.Head == b.Head && a.Up == b.Up && slices.Equal(a.Body, b.Body)
	})
}

func copyLoops(l []impl.Loop) []impl.Loop {
	out := slices.Clone(l)
	for i := range out {
		out[i].Body = slices.Clone(out[i].Body)
	}
	return out
}

func bodiesOf(l []impl.Loop) [][]int {
	var out [][]int
	for _, loop := range l {
		out = append(out, loop.Body)
	}
	return out
}

// startsByHand tells where the back edges to a head start, itself left out; and whether there is any back edge to it.
func startsByHand(g impl.Graph, head int) ([]int, bool) {
	var starts []int
	isHead := false
	for _, edge := range backEdgesByHand(g) {
		if edge[1] != head {
			continue
		}
		isHead = true
		if edge[0] != head {
			starts = append(starts, edge[0])
		}
	}
	return starts, isHead
}

// goBack marks a node, and those that are come to and lead to it, on and on, but not those ahead of what is marked already.
func (w web) goBack(at int, come []bool, marked []bool) {
	if marked[at] {
		return
	}
	marked[at] = true
	for from := range w {
		if come[from] && w[from][at] {
			w.goBack(from, come, marked)
		}
	}
}

// bodyGoingBack goes back from the starts, the head being marked ahead of all.
func bodyGoingBack(g impl.Graph, head int) []int {
	w := webOf(g)
	come, marked := w.comeTo(-1), make([]bool, len(w))
	marked[head] = true
	starts, _ := startsByHand(g, head)
	for _, start := range starts {
		w.goBack(start, come, marked)
	}
	var out []int
	for at, is := range marked {
		if is {
			out = append(out, at)
		}
	}
	return out
}

// bodyWithoutHead takes the head away, and looks who still gets to a start, by ways through ever more nodes.
func bodyWithoutHead(g impl.Graph, head int) []int {
	w := webOf(g)
	come := w.comeTo(-1)
	for at := range w {
		w[head][at], w[at][head] = false, false
	}
	for by := range w {
		for from := range w {
			for to := range w {
				w[from][to] = w[from][to] || w[from][by] && w[by][to]
			}
		}
	}
	starts, _ := startsByHand(g, head)
	var out []int
	for at := range w {
		gets := slices.ContainsFunc(starts, func(start int) bool { return at == start || w[at][start] })
		if at == head || come[at] && gets {
			out = append(out, at)
		}
	}
	return out
}

func hasAllByHand(outer []int, inner []int) bool {
	return !slices.ContainsFunc(inner, func(node int) bool { return !slices.Contains(outer, node) })
}

// leastByHand tries ever greater sizes; of each size the first loop that fits counts; -1 for none.
func leastByHand(l []impl.Loop, fits func(int) bool) int {
	for size := range 13 {
		for at := range l {
			if len(l[at].Body) == size && fits(at) {
				return at
			}
		}
	}
	return -1
}

// loopsByHand tells the loops of a reducible graph.
func loopsByHand(g impl.Graph) []impl.Loop {
	var out []impl.Loop
	for head := range g.Next {
		if _, isHead := startsByHand(g, head); isHead {
			out = append(out, impl.Loop{Head: head, Body: bodyWithoutHead(g, head)})
		}
	}
	for i := range out {
		out[i].Up = leastByHand(out, func(at int) bool { return at != i && hasAllByHand(out[at].Body, out[i].Body) })
	}
	return out
}

// checkNested is promise 8: of two loops the Bodies have nothing in common, or one has all of the other's, and more.
func checkNested(t *testing.T, g impl.Graph, l []impl.Loop) {
	t.Helper()
	for i, a := range l {
		for _, b := range l[:i] {
			common := slices.ContainsFunc(a.Body, func(node int) bool { return slices.Contains(b.Body, node) })
			within := hasAllByHand(a.Body, b.Body) || hasAllByHand(b.Body, a.Body)
			if common && (!within || len(a.Body) == len(b.Body)) || a.Head == b.Head {
				t.Fatalf("%v: %v and %v", g, a, b)
			}
		}
	}
}

// checkEntered is promise 8: an edge from outside, from a node that is come to, leads to the Head alone, through which each way to the Body goes.
func checkEntered(t *testing.T, g impl.Graph, l []impl.Loop) {
	t.Helper()
	w := webOf(g)
	come, dominators := w.comeTo(-1), dominatorsByHand(g)
	for _, loop := range l {
		for from := range w {
			for _, to := range loop.Body {
				outside := come[from] && !slices.Contains(loop.Body, from)
				if outside && w[from][to] && to != loop.Head {
					t.Fatalf("%v: %d to %d enters %v", g, from, to, loop)
				}
			}
		}
		for _, at := range loop.Body {
			if !slices.Contains(dominators[at], loop.Head) {
				t.Fatalf("%v: %d is in %v", g, at, loop)
			}
		}
	}
}

// checkUps looks that the loop in which one lies is the next greater one: no third one lies between.
func checkUps(t *testing.T, g impl.Graph, l []impl.Loop) {
	t.Helper()
	for i, loop := range l {
		for k, other := range l {
			around := k != i && hasAllByHand(other.Body, loop.Body)
			if around && (loop.Up < 0 || !hasAllByHand(other.Body, l[loop.Up].Body)) || loop.Up == k && !around {
				t.Fatalf("%v: Up of %v, beside %v", g, loop, other)
			}
		}
	}
}

// checkNodes holds what is told of each node, and of some that there are not, against what is counted.
func checkNodes(t *testing.T, g impl.Graph, l []impl.Loop) {
	t.Helper()
	for node := -2; node <= len(g.Next)+1; node++ {
		deep := 0
		for _, loop := range l {
			if slices.Contains(loop.Body, node) {
				deep++
			}
		}
		is := node >= 0 && node < len(g.Next)
		if got, ok := impl.DeepIn(g, node); got != deep || ok != is {
			t.Fatalf("DeepIn(%v, %d): %d %v, not %d", g, node, got, ok, deep)
		}
		want := leastByHand(l, func(at int) bool { return slices.Contains(l[at].Body, node) })
		got, ok := impl.InnermostAt(g, node)
		if got != max(0, want) || ok != (want >= 0) || ok != (deep > 0) {
			t.Fatalf("InnermostAt(%v, %d): %d %v, not %d", g, node, got, ok, want)
		}
		for up := want; up >= 0; up = l[up].Up {
			deep--
		}
		if deep != 0 {
			t.Fatalf("%v: from %d up, in %v: %d too few", g, node, l, deep)
		}
	}
}

// waysByHand tells the edges out of a loop, and the nodes that lead to its head from outside.
func waysByHand(g impl.Graph, loop impl.Loop) ([][]int, []int) {
	w := webOf(g)
	come := w.comeTo(-1)
	var exits [][]int
	var entries []int
	for from := range w {
		inside := slices.Contains(loop.Body, from)
		for to := range w {
			if inside && w[from][to] && !slices.Contains(loop.Body, to) {
				exits = append(exits, []int{from, to})
			}
		}
		if come[from] && !inside && w[from][loop.Head] {
			entries = append(entries, from)
		}
	}
	return exits, entries
}

// checkWays holds the ways out of each loop and into it, and of some that there are not, against those by hand.
func checkWays(t *testing.T, g impl.Graph, l []impl.Loop) {
	t.Helper()
	for at := -2; at <= len(l)+1; at++ {
		is := at >= 0 && at < len(l)
		var wantExits [][]int
		var wantEntries []int
		if is {
			wantExits, wantEntries = waysByHand(g, l[at])
		}
		if got, ok := impl.ExitsOf(g, at); !sameLists(got, wantExits) || ok != is {
			t.Fatalf("ExitsOf(%v, %d): %v %v, not %v", g, at, got, ok, wantExits)
		}
		if got, ok := impl.EntriesOf(g, at); !slices.Equal(got, wantEntries) || ok != is {
			t.Fatalf("EntriesOf(%v, %d): %v %v, not %v", g, at, got, ok, wantEntries)
		}
	}
}

// checkLoops holds all that is told of a reducible graph against what is worked out by hand; it tells its loops.
func checkLoops(t *testing.T, g impl.Graph) []impl.Loop {
	t.Helper()
	before := copyLists(g.Next)
	if reducible, ok := impl.IsReducible(g); !reducible || !ok {
		t.Fatalf("IsReducible(%v): %v %v", g, reducible, ok)
	}
	l, ok := impl.LoopsOf(g)
	if want := loopsByHand(g); !sameLoops(l, want) || !ok {
		t.Fatalf("LoopsOf(%v): %v %v, not %v", g, l, ok, want)
	}
	for _, loop := range l {
		if want := bodyGoingBack(g, loop.Head); !slices.Equal(loop.Body, want) {
			t.Fatalf("LoopsOf(%v): %v, not %v", g, loop, want)
		}
	}
	checkNested(t, g, l)
	checkEntered(t, g, l)
	checkUps(t, g, l)
	checkNodes(t, g, l)
	checkWays(t, g, l)
	if got, ok := impl.GoodLoops(g, l); !got || !ok {
		t.Fatalf("GoodLoops(%v, %v): %v %v", g, l, got, ok)
	}
	if !sameLists(g.Next, before) {
		t.Fatalf("%v was %v", g, before)
	}
	return l
}

// checkNoLoops looks for the zero answer of every function, at a graph that is not good, or not reducible.
func checkNoLoops(t *testing.T, g impl.Graph) {
	t.Helper()
	before := copyLists(g.Next)
	if got, ok := impl.LoopsOf(g); len(got) != 0 || ok {
		t.Errorf("LoopsOf(%v): %v %v", g, got, ok)
	}
	for _, l := range [][]impl.Loop{nil, {}, loops("0 -1 0"), loops("1 -1 1 2"), {{}}, {{Body: []int{}, Up: -1}}} {
		if got, ok := impl.GoodLoops(g, l); got || ok {
			t.Errorf("GoodLoops(%v, %v): %v %v", g, l, got, ok)
		}
	}
	for at := -1; at <= len(g.Next); at++ {
		if got, ok := impl.DeepIn(g, at); got != 0 || ok {
			t.Errorf("DeepIn(%v, %d): %v %v", g, at, got, ok)
		}
		if got, ok := impl.InnermostAt(g, at); got != 0 || ok {
			t.Errorf("InnermostAt(%v, %d): %v %v", g, at, got, ok)
		}
		if got, ok := impl.ExitsOf(g, at); len(got) != 0 || ok {
			t.Errorf("ExitsOf(%v, %d): %v %v", g, at, got, ok)
		}
		if got, ok := impl.EntriesOf(g, at); len(got) != 0 || ok {
			t.Errorf("EntriesOf(%v, %d): %v %v", g, at, got, ok)
		}
	}
	if !sameLists(g.Next, before) {
		t.Errorf("%v was %v", g, before)
	}
}

// spoiltBodies tells a Body with one node more, one less, or not rising.
func spoiltBodies(body []int, many int) [][]int {
	out := [][]int{nil, {}, append(slices.Clone(body), body...), append(slices.Clone(body), many), append([]int{-1}, body...)}
	for node := range many {
		if at, is := slices.BinarySearch(body, node); is {
			out = append(out, slices.Delete(slices.Clone(body), at, at+1), slices.Insert(slices.Clone(body), at, node))
		} else {
			out = append(out, slices.Insert(slices.Clone(body), at, node))
		}
	}
	for at := 1; at < len(body); at++ {
		other := slices.Clone(body)
		other[at-1], other[at] = other[at], other[at-1]
		out = append(out, other)
	}
	return out
}

// spoiltLoops tells loops of a graph of so many nodes, each time other ones than are handed in, in one place.
func spoiltLoops(l []impl.Loop, many int) [][]impl.Loop {
	var out [][]impl.Loop
	change := func(at int, loop impl.Loop) {
		other := copyLoops(l)
		other[at] = loop
		out = append(out, other)
	}
	for at, loop := range l {
		for n := -2; n <= many+1; n++ {
			if n != loop.Head {
				change(at, impl.Loop{Head: n, Body: loop.Body, Up: loop.Up})
			}
			if n != loop.Up {
				change(at, impl.Loop{Head: loop.Head, Body: loop.Body, Up: n})
			}
		}
		for _, body := range spoiltBodies(loop.Body, many) {
			change(at, impl.Loop{Head: loop.Head, Body: body, Up: loop.Up})
		}
		out = append(out, slices.Delete(copyLoops(l), at, at+1), slices.Insert(copyLoops(l), at, loop))
		for before := range at {
			other := copyLoops(l)
			other[before], other[at] = other[at], other[before]
			out = append(out, other)
		}
	}
	return append(out, append(copyLoops(l), impl.Loop{}), append(copyLoops(l), impl.Loop{Head: many, Up: -1}), slices.Insert(copyLoops(l), 0, impl.Loop{Up: -1}))
}

// checkSpoilt looks that none but the loops of a graph are taken for them, and tells how many others were tried.
func checkSpoilt(t *testing.T, g impl.Graph, l []impl.Loop) int {
	t.Helper()
	spoilt := spoiltLoops(l, len(g.Next))
	for _, other := range spoilt {
		before := copyLoops(other)
		if got, ok := impl.GoodLoops(g, other); got || !ok {
			t.Fatalf("GoodLoops(%v, %v): %v %v", g, other, got, ok)
		}
		if !sameLoops(other, before) {
			t.Fatalf("%v was %v", other, before)
		}
	}
	return len(spoilt)
}

type loopCase struct {
	text    string
	loops   string
	deep    string
	inner   string // -1 for a node in no loop
	exits   string // of each loop, two numbers for each edge
	entries string // of each loop
}

// checkTold holds what is told of each loop against lists.
func checkTold(t *testing.T, g impl.Graph, many int, c loopCase) {
	t.Helper()
	exits, entries := lists(c.exits), lists(c.entries)
	if many > 0 && (len(exits) != many || len(entries) != many) {
		t.Fatalf("%s: %d loops, %v and %v", c.text, many, exits, entries)
	}
	for at := range many {
		got, ok := impl.ExitsOf(g, at)
		if !slices.Equal(slices.Concat(got...), exits[at]) || len(got) != len(exits[at])/2 || !ok {
			t.Errorf("ExitsOf(%v, %d): %v %v, not %v", g, at, got, ok, exits[at])
		}
		if got, ok := impl.EntriesOf(g, at); !slices.Equal(got, entries[at]) || !ok {
			t.Errorf("EntriesOf(%v, %d): %v %v, not %v", g, at, got, ok, entries[at])
		}
	}
}

func checkCases(t *testing.T, cases []loopCase) {
	t.Helper()
	for _, c := range cases {
		g, want := graph(c.text), loops(c.loops)
		if got, ok := impl.LoopsOf(g); !sameLoops(got, want) || !ok {
			t.Errorf("LoopsOf(%v): %v %v, not %v", g, got, ok, want)
			continue
		}
		deep, inner := numbersOf(strings.Fields(c.deep)), numbersOf(strings.Fields(c.inner))
		for node := range g.Next {
			if got, ok := impl.DeepIn(g, node); got != deep[node] || !ok {
				t.Errorf("DeepIn(%v, %d): %v %v, not %d", g, node, got, ok, deep[node])
			}
			if got, ok := impl.InnermostAt(g, node); got != max(0, inner[node]) || ok != (inner[node] >= 0) {
				t.Errorf("InnermostAt(%v, %d): %v %v, not %d", g, node, got, ok, inner[node])
			}
		}
		checkTold(t, g, len(want), c)
		checkLoops(t, g)
		checkSpoilt(t, g, want)
	}
}

// Promise 8: graphs with no loop.
func TestLoopsNone(t *testing.T) {
	checkCases(t, []loopCase{
		{"", "", "0", "-1", "", ""},
		{";", "", "0 0", "-1 -1", "", ""},
		{"1;", "", "0 0", "-1 -1", "", ""},
		{"1 2;;", "", "0 0 0", "-1 -1 -1", "", ""},
		{"1 2; 3; 3;", "", "0 0 0 0", "-1 -1 -1 -1", "", ""},
		{"1 2 3; 2 3; 3;", "", "0 0 0 0", "-1 -1 -1 -1", "", ""},
		{"3; ; 1; 2", "", "0 0 0 0", "-1 -1 -1 -1", "", ""},
	})
	for many := 1; many <= 12; many++ {
		for _, g := range []impl.Graph{row(many), {Next: make([][]int, many)}} {
			if l := checkLoops(t, g); len(l) != 0 {
				t.Errorf("LoopsOf(%v): %v", g, l)
			}
		}
	}
}

// Promise 8: an edge from a node to itself: the Body is the Head alone.
func TestLoopsToItself(t *testing.T) {
	checkCases(t, []loopCase{
		{"0", "0 -1 0", "1", "0", "", ""},
		{"0 1;", "0 -1 0", "1 0", "0 -1", "0 1", ""},
		{"1; 1", "1 -1 1", "0 1", "-1 0", "", "0"},
		{"1; 1 2;", "1 -1 1", "0 1 0", "-1 0 -1", "1 2", "0"},
		// ways that come to the Head are not gone back
		{"1; 2; 2 3;", "2 -1 2", "0 0 1 0", "-1 -1 0 -1", "2 3", "1"},
		{"1 2; 3; 3; 3 4;", "3 -1 3", "0 0 0 1 0", "-1 -1 -1 0 -1", "3 4", "1 2"},
		{"0 1; 1 2; 2", "0 -1 0; 1 -1 1; 2 -1 2", "1 1 1", "0 1 2", "0 1; 1 2;", "; 0; 1"},
	})
}

// Promise 8: one loop: who gets to the start of a back edge is in it, and nobody else.
func TestLoopsOne(t *testing.T) {
	checkCases(t, []loopCase{
		{"1; 0", "0 -1 0 1", "1 1", "0 0", "", ""},
		{"1; 0 2;", "0 -1 0 1", "1 1 0", "0 0 -1", "1 2", ""},
		{"1; 2; 1 3;", "1 -1 1 2", "0 1 1 0", "-1 0 0 -1", "2 3", "0"},
		// the Head dominates 3, which does not get back
		{"1; 2 3; 1;", "1 -1 1 2", "0 1 1 0", "-1 0 0 -1", "1 3", "0"},
		{"1; 2 3; 4; 4; 1 5;", "1 -1 1 2 3 4", "0 1 1 1 1 0", "-1 0 0 0 0 -1", "4 5", "0"},
		// two back edges to one Head, and three
		{"1; 2 3; 1; 1 4;", "1 -1 1 2 3", "0 1 1 1 0", "-1 0 0 0 -1", "3 4", "0"},
		{"1; 2 4; 1 3; 1 4;", "1 -1 1 2 3", "0 1 1 1 0", "-1 0 0 0 -1", "1 4 3 4", "0"},
		{"1; 1 2 3; 1; 1 4;", "1 -1 1 2 3", "0 1 1 1 0", "-1 0 0 0 -1", "3 4", "0"},
		{"0 1 2; 0; 0", "0 -1 0 1 2", "1 1 1", "0 0 0", "", ""},
		// the Head has not the least number of its Body
		{"2; ; 3; 1 2", "2 -1 2 3", "0 0 1 1", "-1 -1 0 0", "3 1", "0"},
		{"3; 3; 1; 2", "3 -1 1 2 3", "0 1 1 1", "-1 0 0 0", "", "0"},
		// the ways out by their first nodes, then their second ones
		{"1; 2 5 6; 3 4; 1 4;;;", "1 -1 1 2 3", "0 1 1 1 0 0 0", "-1 0 0 0 -1 -1 -1", "1 5 1 6 2 4 3 4", "0"},
		{"3; 3 4 5; 1 4; 2 5;;", "3 -1 1 2 3", "0 1 1 1 0 0", "-1 0 0 0 -1 -1", "1 4 1 5 2 4 3 5", "0"},
		{"4; 0; 1; ; 0 2 3", "0 -1 0 1 2 4", "1 1 1 0 1", "0 0 0 -1 0", "4 3", ""},
		// entered from several nodes
		{"1 2 3; 3; 3; 4; 3", "3 -1 3 4", "0 0 0 1 1", "-1 -1 -1 0 0", "", "0 1 2"},
		{"2 3 4; 2; 1; 2; 2", "2 -1 1 2", "0 1 1 0 0", "-1 0 0 -1 -1", "", "0 3 4"},
	})
}

// Promise 8: loops within loops.
func TestLoopsWithin(t *testing.T) {
	checkCases(t, []loopCase{
		{"1; 2; 3; 2 4; 1 5;", "1 -1 1 2 3 4; 2 0 2 3", "0 1 2 2 1 0", "-1 0 1 1 0 -1", "4 5; 3 4", "0; 1"},
		// three deep, with 0 outside, with 0 as a Head, with numbers that fall inward
		{"1; 2; 3; 3 4; 2 5; 1 6;", "1 -1 1 2 3 4 5; 2 0 2 3 4; 3 1 3", "0 1 2 3 2 1 0", "-1 0 1 2 1 0 -1", "5 6; 4 5; 3 4", "0; 1; 2"},
		{"1; 2; 2 3; 1 4; 0 5;", "0 -1 0 1 2 3 4; 1 0 1 2 3; 2 1 2", "1 2 3 2 1 0", "0 1 2 1 0 -1", "4 5; 3 4; 2 3", "; 0; 1"},
		{"3; 1 4; 1; 2; 2 5; 3", "1 1 1; 2 2 1 2 4; 3 -1 1 2 3 4 5", "0 3 2 1 2 1", "-1 0 1 2 1 2", "1 4; 4 5;", "2; 3; 0"},
		{"3; 1 2; 3; 1", "1 1 1; 3 -1 1 2 3", "0 2 1 1", "-1 0 1 1", "1 2;", "3; 0"},
		// one node starts the back edges of both
		{"1; 2; 1 2 3;", "1 -1 1 2; 2 0 2", "0 1 2 0", "-1 0 1 -1", "2 3; 2 1 2 3", "0; 1"},
		{"1; 2; 3; 0 1 2", "0 -1 0 1 2 3; 1 0 1 2 3; 2 1 2 3", "1 2 3 3", "0 1 2 2", "; 3 0; 3 0 3 1", "; 0; 1"},
		// the inner one is entered from several nodes of the outer one
		{"1; 2 3; 3; 3 4; 1", "1 -1 1 2 3 4; 3 0 3", "0 1 1 2 1", "-1 0 0 1 0", "; 3 4", "0; 1 2"},
	})
}

// Promise 8: loops apart, in one or in none; Up and InnermostAt where two loops are as small.
func TestLoopsApart(t *testing.T) {
	checkCases(t, []loopCase{
		{"1; 2; 2 3; 4; 3 5; 1 6;", "1 -1 1 2 3 4 5; 2 0 2; 3 0 3 4", "0 1 2 2 2 1 0", "-1 0 1 2 2 0 -1", "5 6; 2 3; 4 5", "0; 1; 2"},
		{"1; 2; 2 3; 3 4; 1 5;", "1 -1 1 2 3 4; 2 0 2; 3 0 3", "0 1 2 2 1 0", "-1 0 1 2 0 -1", "4 5; 2 3; 3 4", "0; 1; 2"},
		{"1 2; 1 3; 2 3;", "1 -1 1; 2 -1 2", "0 1 1 0", "-1 0 1 -1", "1 3; 2 3", "0; 0"},
		{"1 3; 2; 1 3; 4; 3", "1 -1 1 2; 3 -1 3 4", "0 1 1 1 1", "-1 0 0 1 1", "2 3;", "0; 0 2"},
		// as small outer ones: each inner one lies in its own
		{"1 2; 3; 4; 1 3; 2 4", "1 -1 1 3; 2 -1 2 4; 3 0 3; 4 1 4", "0 1 1 2 2", "-1 0 1 2 3", ";; 3 1; 4 2", "0; 0; 1; 2"},
		{"1 2; 4; 3; 2 3; 1 4", "1 -1 1 4; 2 -1 2 3; 3 1 3; 4 0 4", "0 1 1 2 2", "-1 0 1 2 3", ";; 3 2; 4 1", "0; 0; 2; 1"},
		{"1 2; 3; 4; 1 3; 0 2 4", "0 -1 0 2 4; 1 -1 1 3; 2 0 2 4; 3 1 3; 4 2 4", "1 1 2 2 3", "0 1 2 3 4", "0 1;; 4 0; 3 1; 4 0 4 2", "; 0; 0; 1; 2"},
	})
}

// Promise 8: nodes that are not come to are in no Body, and lead nowhere in.
func TestLoopsNotComeTo(t *testing.T) {
	checkCases(t, []loopCase{
		{"; 1", "", "0 0", "-1 -1", "", ""},
		{"; 2; 1", "", "0 0 0", "-1 -1 -1", "", ""},
		// there are two ways into what leads round, but none is come to
		{"; 2 3; 3; 2", "", "0 0 0 0", "-1 -1 -1 -1", "", ""},
		{"0; 0", "0 -1 0", "1 0", "0 -1", "", ""},
		{"1; 0; 0 1 2", "0 -1 0 1", "1 1 0", "0 0 -1", "", ""},
		{"1; 1 2; ; 1", "1 -1 1", "0 1 0 0", "-1 0 -1 -1", "1 2", "0"},
		{"1; 2; 1; 2", "1 -1 1 2", "0 1 1 0", "-1 0 0 -1", "", "0"},
		{"1; 2; 1; 2 3 4; 3", "1 -1 1 2", "0 1 1 0 0", "-1 0 0 -1 -1", "", "0"},
		{"4; 2 4; 1 3; 4; 5; 4", "4 -1 4 5", "0 0 0 0 1 1", "-1 -1 -1 -1 0 0", "", "0"},
		// an outer loop through a node that is not come to is none
		{"2; 2; 2 3;", "2 -1 2", "0 0 1 0", "-1 -1 0 -1", "2 3", "0"},
	})
}

// nested is a graph of so many nodes, each leading to the next one, the last one to all.
func nested(many int) impl.Graph {
	g := row(many)
	g.Next[many-1] = places(many)
	return g
}

// star is a graph of so many nodes, 0 leading to all, each to itself.
func star(many int) impl.Graph {
	g := impl.Graph{Next: [][]int{places(many)}}
	for at := 1; at < many; at++ {
		g.Next = append(g.Next, []int{at})
	}
	return g
}

// Promise 8: as many loops as there are nodes, all within each other, or all apart.
func TestLoopsMost(t *testing.T) {
	for many := 1; many <= 12; many++ {
		g := nested(many)
		l := checkLoops(t, g)
		if len(l) != many {
			t.Errorf("LoopsOf(%v): %v", g, l)
		}
		for at, loop := range l {
			if loop.Head != at || loop.Up != at-1 || !slices.Equal(loop.Body, places(many)[at:]) {
				t.Errorf("LoopsOf(%v): %v", g, l)
			}
			if got, ok := impl.DeepIn(g, at); got != at+1 || !ok {
				t.Errorf("DeepIn(%v, %d): %v %v", g, at, got, ok)
			}
		}
		checkSpoilt(t, g, l)
		g = star(many)
		l = checkLoops(t, g)
		if len(l) != many {
			t.Errorf("LoopsOf(%v): %v", g, l)
		}
		for at, loop := range l {
			if loop.Head != at || loop.Up != -1 || !slices.Equal(loop.Body, []int{at}) {
				t.Errorf("LoopsOf(%v): %v", g, l)
			}
		}
		checkSpoilt(t, g, l)
	}
}

// Promises 8 and 19: a graph that is not reducible has no loops told, though there be some apart from what is not.
func TestLoopsNotReducible(t *testing.T) {
	for _, text := range []string{
		"1 2; 2; 1", "0 1 2; 2; 1", "1 2; 2; 0 1", "1 2; 1 2; 1 2", "1 2; 2 3; 1 3; 3", "3; 2; 1; 1 2 3",
		"1 2; 2; 1 3; 4; 3 5;", "1 5; 1 2; 3 4; 4; 3;", "1 2 3; 2; 3; 1", "1 3; 2; 3; 2", "1 2; 2; 1; 3",
	} {
		checkNoLoops(t, graph(text))
	}
	for many := 3; many <= 12; many++ {
		checkNoLoops(t, full(many))
	}
	split, _ := impl.SplitNode(graph("1 2; 2; 1"), 2, 0)
	if l := checkLoops(t, split); !sameLoops(l, loops("1 -1 1 2")) {
		t.Error(split, l)
	}
}

// Promise 19: a graph that is not good has no loops.
func TestLoopsNotGood(t *testing.T) {
	checkNoLoops(t, impl.Graph{})
	checkNoLoops(t, impl.Graph{Next: [][]int{}})
	for _, many := range []int{13, 14, 40} {
		for _, g := range []impl.Graph{row(many), nested(many), star(many), full(many), {Next: make([][]int, many)}} {
			checkNoLoops(t, g)
		}
	}
	for many := 1; many <= 12; many++ {
		for _, next := range wrongNexts(many) {
			for at := range many {
				for _, g := range []impl.Graph{nested(many), star(many)} {
					g.Next[at] = next
					checkNoLoops(t, g)
				}
			}
		}
	}
}

// Promise 8: every graph of up to three nodes, each with its loops spoilt.
func TestLoopsAllSmall(t *testing.T) {
	for many := 1; many <= 3; many++ {
		reducible, not := 0, 0
		allGraphs(many, func(g impl.Graph) {
			if !reducibleByHand(g) {
				not++
				checkNoLoops(t, g)
				return
			}
			reducible++
			checkSpoilt(t, g, checkLoops(t, g))
		})
		if want := []int{0, 0, 0, 32}[many]; not != want || reducible != 1<<(many*many)-want {
			t.Errorf("%d nodes: %d and %d", many, reducible, not)
		}
	}
}

// Promise 8: every graph of four nodes without edges to themselves, but for one.
func TestLoopsAllOfFour(t *testing.T) {
	within, not := 0, 0
	allGraphs(4, func(g impl.Graph) {
		for at, next := range g.Next {
			if at != 2 && slices.Contains(next, at) {
				return
			}
		}
		if !reducibleByHand(g) {
			not++
			checkNoLoops(t, g)
			return
		}
		if l := checkLoops(t, g); slices.ContainsFunc(l, func(loop impl.Loop) bool { return loop.Up >= 0 }) {
			within++
		}
	})
	if within < 300 || not < 1000 {
		t.Errorf("so few of: %d within others, %d not reducible", within, not)
	}
}

// tally counts what loops there were.
type tally struct {
	loops, within, apart, asSmall, closed, many, after int
	deep                                               [13]int
}

func (c *tally) count(g impl.Graph, l []impl.Loop) {
	c.loops += len(l)
	for node := range g.Next {
		deep, _ := impl.DeepIn(g, node)
		c.deep[deep]++
	}
	for i, loop := range l {
		if loop.Up > i {
			c.after++
		}
		for _, other := range l[:i] {
			switch {
			case hasAllByHand(loop.Body, other.Body) || hasAllByHand(other.Body, loop.Body):
				c.within++
			case len(loop.Body) == len(other.Body):
				c.asSmall++
			default:
				c.apart++
			}
		}
		if exits, _ := impl.ExitsOf(g, i); len(exits) == 0 {
			c.closed++
		}
		if entries, _ := impl.EntriesOf(g, i); len(entries) > 1 {
			c.many++
		}
	}
}

// Promise 8: grown reducible graphs of up to MaxNodes nodes, some with their loops spoilt.
func TestLoopsGrownReducible(t *testing.T) {
	pick := someSource()
	var c tally
	spoilt := 0
	for range 3000 {
		g := grownReducible(pick, 1+pick(12))
		l := checkLoops(t, g)
		c.count(g, l)
		if pick(15) == 0 {
			spoilt += checkSpoilt(t, g, l)
		}
	}
	rare := []int{c.loops, c.within, c.apart, c.asSmall, c.closed, c.many, c.after, spoilt}
	if slices.Min(rare) < 300 || slices.Min(c.deep[:5]) < 50 {
		t.Errorf("so few of: %+v, %d", c, spoilt)
	}
}

// Promise 8: grown graphs of all kinds, reducible or not.
func TestLoopsMixed(t *testing.T) {
	pick := someSource()
	var c tally
	not := 0
	for range 4000 {
		g := grownGraph(pick)
		if !reducibleByHand(g) {
			not++
			checkNoLoops(t, g)
			continue
		}
		c.count(g, checkLoops(t, g))
	}
	if not < 500 || c.loops < 1000 || c.within < 100 {
		t.Errorf("so few of: %+v, %d", c, not)
	}
}

// Promise 8: but for 0 the numbers of nodes do not matter to which loops there are, and which lies in which.
func TestLoopsRenumbered(t *testing.T) {
	pick := someSource()
	for range 1500 {
		g := grownReducible(pick, 1+pick(12))
		numbers := mixedNumbers(len(g.Next), pick)
		other := renumbered(g, numbers)
		l, _ := impl.LoopsOf(g)
		got := checkLoops(t, other)
		if len(got) != len(l) {
			t.Fatalf("LoopsOf(%v): %v; of %v: %v", other, got, g, l)
		}
		headOf := func(l []impl.Loop, at int) int {
			if at < 0 {
				return -1
			}
			return l[at].Head
		}
		for _, loop := range l {
			at := slices.IndexFunc(got, func(x impl.Loop) bool { return x.Head == numbers[loop.Head] })
			var want []int
			for _, node := range loop.Body {
				want = append(want, numbers[node])
			}
			slices.Sort(want)
			up := headOf(l, loop.Up)
			if up >= 0 {
				up = numbers[up]
			}
			if at < 0 || !slices.Equal(got[at].Body, want) || headOf(got, got[at].Up) != up {
				t.Fatalf("LoopsOf(%v): %v; of %v: %v", other, got, g, l)
			}
		}
	}
}

// Promise 8: nodes that are not come to change nothing, wherever they lead.
func TestLoopsMoreNotComeTo(t *testing.T) {
	pick := someSource()
	for range 1500 {
		g := grownReducible(pick, 1+pick(10))
		more := emptyWeb(12)
		for at, row := range webOf(g) {
			copy(more[at], row)
		}
		for at := len(g.Next); at < 12; at++ {
			for to := range more {
				more[at][to] = pick(3) == 0
			}
		}
		other := more.graph()
		l, _ := impl.LoopsOf(g)
		if got := checkLoops(t, other); !sameLoops(got, l) {
			t.Fatalf("LoopsOf(%v): %v, not %v", other, got, l)
		}
		for at := range l {
			exits, _ := impl.ExitsOf(g, at)
			entries, _ := impl.EntriesOf(g, at)
			if got, ok := impl.ExitsOf(other, at); !sameLists(got, exits) || !ok {
				t.Fatalf("ExitsOf(%v, %d): %v %v, not %v", other, at, got, ok, exits)
			}
			if got, ok := impl.EntriesOf(other, at); !slices.Equal(got, entries) || !ok {
				t.Fatalf("EntriesOf(%v, %d): %v %v, not %v", other, at, got, ok, entries)
			}
		}
	}
}

// beginningsOf tells where the blocks of code begin in which nothing is dead.
func beginningsOf(l []impl.Step) []int {
	var out []int
	for at := range len(l) + 1 {
		if beginsByHand(l, at) {
			out = append(out, at)
		}
	}
	return out
}

// Promise 8: in code a Head is the block right behind a WLoop, and the Body lies ahead of its WEnd.
func TestLoopsOfCode(t *testing.T) {
	pick := someSource()
	var c tally
	for range 6000 {
		l, _ := impl.CutDead(grownCode(pick))
		f, _ := impl.LiftSteps(l)
		g, ok := impl.GraphOf(f)
		if !ok {
			continue
		}
		told := checkLoops(t, g)
		c.count(g, told)
		begin := beginningsOf(l)
		for _, loop := range told {
			at := begin[loop.Head] - 1
			if at < 0 || l[at].Op != impl.WLoop {
				t.Fatalf("%v: a Head at %d", l, at+1)
			}
			if first, last := begin[loop.Body[0]], begin[slices.Max(loop.Body)]; first != at+1 || last > endByHand(l, at) {
				t.Fatalf("%v: a Body from %d to %d", l, first, last)
			}
		}
	}
	if c.loops < 200 || c.within < 10 {
		t.Errorf("so few of: %+v", c)
	}
}

// Promise 8: loops of code, told by its words.
func TestLoopsOfWords(t *testing.T) {
	for _, c := range []struct{ text, want string }{
		{"get 0, out", ""},
		{"loop, get 0, out, end", ""},
		{"loop, get 0, brif 0, end", "1 -1 1"},
		{"loop, br 0, end", "1 -1 1"},
		{"loop, loop, get 0, brif 0, get 1, brif 1, end, end", "1 -1 1 2 3; 2 0 2"},
		{"loop, get 0, brif 0, end, loop, get 1, brif 0, end", "1 -1 1; 4 -1 4"},
		{"loop, get 0, if, br 1, else, get 1, brif 1, end, end", "1 -1 1 2 4"},
	} {
		f, _ := impl.LiftSteps(code(c.text))
		g, ok := impl.GraphOf(f)
		if !ok {
			t.Fatal(c.text)
		}
		if got := checkLoops(t, g); !sameLoops(got, loops(c.want)) {
			t.Errorf("%s: %v: %v, not %s", c.text, g, got, c.want)
		}
	}
}

// Promise 19: numbers of nodes and of loops that there are not, far off and near.
func TestLoopsWrongNumbers(t *testing.T) {
	for _, text := range []string{"", "0", "1;", "1; 1", "1; 2; 3; 3 4; 2 5; 1 6;", "1 2; 3; 4; 1 3; 2 4", "1; 2; 1; 2"} {
		g := graph(text)
		l := checkLoops(t, g)
		for _, n := range []int{math.MinInt, -65536, -13, -12, -2, -1, 12, 13, 64, math.MaxInt - 1, math.MaxInt, len(g.Next), len(g.Next) + 1} {
			if got, ok := impl.DeepIn(g, n); got != 0 || ok {
				t.Errorf("DeepIn(%v, %d): %v %v", g, n, got, ok)
			}
			if got, ok := impl.InnermostAt(g, n); got != 0 || ok {
				t.Errorf("InnermostAt(%v, %d): %v %v", g, n, got, ok)
			}
			if n >= 0 && n < len(l) {
				continue
			}
			if got, ok := impl.ExitsOf(g, n); len(got) != 0 || ok {
				t.Errorf("ExitsOf(%v, %d): %v %v", g, n, got, ok)
			}
			if got, ok := impl.EntriesOf(g, n); len(got) != 0 || ok {
				t.Errorf("EntriesOf(%v, %d): %v %v", g, n, got, ok)
			}
		}
	}
}

// Promise 19: good graphs with any one number become anything, or one list more or less.
func TestLoopsAnything(t *testing.T) {
	pick := someSource()
	some := []int{math.MinInt, -13, -1, 0, 1, 2, 3, 5, 9, 10, 11, 12, 13, 64, math.MaxInt}
	wrong, good := 0, 0
	for range 4000 {
		g := grownReducible(pick, 1+pick(12))
		at := pick(len(g.Next))
		switch pick(5) {
		case 0:
			g.Next = g.Next[:at]
		case 1:
			g.Next = append(g.Next, g.Next[at])
		case 2:
			g.Next[at] = append(g.Next[at], some[pick(len(some))])
		default:
			if many := len(g.Next[at]); many > 0 {
				g.Next[at][pick(many)] = some[pick(len(some))]
			}
		}
		if goodGraphByHand(g) && reducibleByHand(g) {
			good++
			checkLoops(t, g)
			continue
		}
		wrong++
		checkNoLoops(t, g)
	}
	if wrong < 1000 || good < 500 {
		t.Errorf("so few of: %d wrong, %d good", wrong, good)
	}
}

// Promise 19: GoodLoops answers at any loops: far numbers, long Bodies, very many loops.
func TestLoopsAnyLoops(t *testing.T) {
	far := []int{math.MinInt, -1, 0, 1, 12, 13, math.MaxInt}
	for _, text := range []string{"", "0", "1; 1", "1; 2; 3; 2 4; 1 5;", "1 2; 3; 4; 1 3; 2 4"} {
		g := graph(text)
		l, _ := impl.LoopsOf(g)
		for at := range l {
			for _, n := range far {
				for _, change := range []func(x *impl.Loop){
					func(x *impl.Loop) { x.Head = n },
					func(x *impl.Loop) { x.Up = n },
					func(x *impl.Loop) { x.Body[0] = n },
					func(x *impl.Loop) { x.Body = []int{n} },
					func(x *impl.Loop) { x.Body = append(x.Body, n) },
					func(x *impl.Loop) { x.Body = slices.Repeat([]int{n}, 5000) },
				} {
					other := copyLoops(l)
					change(&other[at])
					before := copyLoops(other)
					if got, ok := impl.GoodLoops(g, other); got != sameLoops(other, l) || !ok {
						t.Errorf("GoodLoops(%v, %v): %v %v", g, other, got, ok)
					}
					if !sameLoops(other, before) {
						t.Errorf("%v was %v", other, before)
					}
				}
			}
		}
		for _, many := range []int{1, 13, 1000} {
			other := append(copyLoops(l), slices.Repeat([]impl.Loop{{Body: []int{1}}}, many)...)
			if got, ok := impl.GoodLoops(g, other); got || !ok {
				t.Errorf("GoodLoops(%v, ..): %v %v", g, got, ok)
			}
		}
	}
}

// Promise 19: nil lists and empty ones are alike.
func TestLoopsOfNothing(t *testing.T) {
	memory := []impl.Loop{{Head: 1, Body: []int{1}, Up: -1}}
	numbers := places(5)
	for _, none := range [][]impl.Loop{nil, {}, memory[:0], memory[1:]} {
		for _, text := range []string{"", "1;", "; 1", "1 2; 3; 3;"} {
			if got, ok := impl.GoodLoops(graph(text), none); !got || !ok {
				t.Errorf("GoodLoops(%s, %v): %v %v", text, none, got, ok)
			}
		}
		for _, text := range []string{"0", "1; 1", "1; 2; 1 3;"} {
			if got, ok := impl.GoodLoops(graph(text), none); got || !ok {
				t.Errorf("GoodLoops(%s, %v): %v %v", text, none, got, ok)
			}
		}
		checkNoLoops(t, impl.Graph{})
		if got, ok := impl.GoodLoops(impl.Graph{}, none); got || ok {
			t.Errorf("GoodLoops of no graph: %v %v", got, ok)
		}
	}
	for _, none := range [][]int{nil, {}, numbers[:0], numbers[5:]} {
		if l := checkLoops(t, impl.Graph{Next: [][]int{{1}, {1, 2}, none}}); !sameLoops(l, loops("1 -1 1")) {
			t.Error(l)
		}
		if got, ok := impl.GoodLoops(graph("1; 1"), []impl.Loop{{Head: 1, Body: none, Up: -1}}); got || !ok {
			t.Error(got, ok)
		}
	}
}

// sharedReducible is a reducible graph whose lists lie in one memory, with something behind their lengths, and with lists behind it.
func sharedReducible() (impl.Graph, [][]int, []int) {
	numbers := []int{0, 1, 2, 3, 4, -5, 77, 78}
	rows := [][]int{numbers[1:2], numbers[2:3], numbers[2:4], numbers[1:5], numbers[:0], {99}, numbers[4:]}
	return impl.Graph{Next: rows[:5]}, rows, numbers
}

// Promise 19: no list that is handed in is changed, nor what lies behind it; and that tells nothing.
func TestLoopsListsStay(t *testing.T) {
	g, rows, numbers := sharedReducible()
	rowsBefore, numbersBefore := copyLists(rows), slices.Clone(numbers)
	want := loops("1 -1 1 2 3; 2 0 2 3; 3 1 3")
	if l := checkLoops(t, g); !sameLoops(l, want) {
		t.Error(l)
	}
	memory := append(loops("1 -1; 2 0; 3 1"), impl.Loop{Head: 9, Body: numbers[3:], Up: 7})
	memory[0].Body, memory[1].Body, memory[2].Body = numbers[1:4], numbers[2:4], numbers[3:4]
	before := copyLoops(memory)
	for many := range len(memory) + 1 {
		if got, ok := impl.GoodLoops(g, memory[:many]); got != (many == 3) || !ok {
			t.Errorf("GoodLoops of %d loops: %v %v", many, got, ok)
		}
	}
	for many := range len(rows) + 1 {
		other := impl.Graph{Next: rows[:many]}
		if many == 5 {
			continue
		}
		checkNoLoops(t, other)
		if got, ok := impl.GoodLoops(other, memory); got || ok {
			t.Errorf("GoodLoops(%v, ..): %v %v", other, got, ok)
		}
	}
	checkSpoilt(t, g, memory[:3])
	if !sameLists(rows, rowsBefore) || !slices.Equal(numbers, numbersBefore) || !sameLoops(memory, before) {
		t.Error(rows, numbers, memory)
	}
}

// Promise 19: what is told shares no memory with what was handed in, nor with other lists of the answer, nor with another answer.
func TestLoopsAnswersAreNew(t *testing.T) {
	shared, rows, numbers := sharedReducible()
	rowsBefore, numbersBefore := copyLists(rows), slices.Clone(numbers)
	graphs := []impl.Graph{shared, nested(6), star(5), graph("1; 2 5 6; 3 4; 1 4;;;"), graph("1 2 3; 3; 3; 4; 3"), graph("1; 2; 2 3; 4; 3 5; 1 6;")}
	for _, g := range graphs {
		before := copyLists(g.Next)
		stays := func() bool {
			return sameLists(g.Next, before) && sameLists(rows, rowsBefore) && slices.Equal(numbers, numbersBefore)
		}
		checkListsAreNew(t, func() [][]int { l, _ := impl.LoopsOf(g); return bodiesOf(l) }, stays)
		first, _ := impl.LoopsOf(g)
		second, _ := impl.LoopsOf(g)
		want := copyLoops(second)
		for at := range first {
			checkListsAreNew(t, func() [][]int { got, _ := impl.ExitsOf(g, at); return got }, stays)
			checkListsAreNew(t, func() [][]int { got, _ := impl.EntriesOf(g, at); return [][]int{got} }, stays)
			first[at] = impl.Loop{Head: 77, Up: 77}
		}
		if third, _ := impl.LoopsOf(g); !sameLoops(second, want) || !sameLoops(third, want) {
			t.Errorf("%v and %v, not %v", second, third, want)
		}
	}
}

// Promise 19: a graph whose Next are all one list is a graph as any other; so are loops whose Bodies are.
func TestLoopsOneList(t *testing.T) {
	next := []int{1}
	g := impl.Graph{Next: slices.Repeat([][]int{next}, 4)}
	l := checkLoops(t, g)
	if !sameLoops(l, loops("1 -1 1")) {
		t.Error(l)
	}
	if got, ok := impl.GoodLoops(g, []impl.Loop{{Head: 1, Body: next, Up: -1}}); !got || !ok {
		t.Error(got, ok)
	}
	if got, ok := impl.GoodLoops(g, []impl.Loop{{Head: 1, Body: next, Up: -1}, {Head: 2, Body: next, Up: 0}}); got || !ok {
		t.Error(got, ok)
	}
	if !slices.Equal(next, []int{1}) {
		t.Error(next)
	}
}
