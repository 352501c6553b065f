package tests

import (
	"math"
	"slices"
	"strings"
	"testing"

	"loop.example/g00373/impl"
)

// lists tells lists of numbers: a semicolon between two lists.
func lists(text string) [][]int {
	var out [][]int
	for part := range strings.SplitSeq(text, ";") {
		out = append(out, numbersOf(strings.Fields(part)))
	}
	return out
}

// graph tells the graph of words: of each node its Next, a semicolon between two nodes.
func graph(text string) impl.Graph { return impl.Graph{Next: lists(text)} }

func sameLists(a [][]int, b [][]int) bool { return slices.EqualFunc(a, b, slices.Equal) }

func copyLists(l [][]int) [][]int {
	out := slices.Clone(l)
	for i := range out {
		out[i] = slices.Clone(out[i])
	}
	return out
}

func goodGraphByHand(g impl.Graph) bool {
	many := len(g.Next)
	for _, next := range g.Next {
		last := -1
		for _, to := range next {
			if to <= last || to >= many {
				return false
			}
			last = to
		}
	}
	return many >= 1 && many <= 12
}

// web is a graph as a table: whether a row's node leads to a column's.
type web [][]bool

func emptyWeb(many int) web {
	w := make(web, many)
	for at := range w {
		w[at] = make([]bool, many)
	}
	return w
}

func webOf(g impl.Graph) web {
	w := emptyWeb(len(g.Next))
	for at, next := range g.Next {
		for _, to := range next {
			w[at][to] = true
		}
	}
	return w
}

func (w web) graph() impl.Graph {
	out := impl.Graph{Next: make([][]int, len(w))}
	for at := range w {
		for to, leads := range w[at] {
			if leads {
				out.Next[at] = append(out.Next[at], to)
			}
		}
	}
	return out
}

// comeTo tells which nodes are come to from 0, one node being taken away.
func (w web) comeTo(away int) []bool {
	out := make([]bool, len(w))
	out[0] = away != 0
	for range w {
		for at := range w {
			for to := range w {
				out[to] = out[to] || to != away && out[at] && w[at][to]
			}
		}
	}
	return out
}

// orderByHand tells for a node what is told from it on: itself, and what its Next tell, that of a later one ahead of that of an earlier one.
func orderByHand(g impl.Graph, at int, seen []bool) []int {
	seen[at] = true
	var told []int
	for _, to := range g.Next[at] {
		if !seen[to] {
			told = slices.Concat(orderByHand(g, to, seen), told)
		}
	}
	return slices.Concat([]int{at}, told)
}

// dominatorsByHand takes each node away, and looks at what is not come to any more.
func dominatorsByHand(g impl.Graph) [][]int {
	w, out := webOf(g), make([][]int, len(g.Next))
	all := w.comeTo(-1)
	for away := range w {
		some := w.comeTo(away)
		for at := range w {
			if all[at] && !some[at] {
				out[at] = append(out[at], away)
			}
		}
	}
	return out
}

func backEdgesByHand(g impl.Graph) [][]int {
	var out [][]int
	dominators := dominatorsByHand(g)
	for from, row := range webOf(g) {
		for to, leads := range row {
			if leads && slices.Contains(dominators[from], to) {
				out = append(out, []int{from, to})
			}
		}
	}
	return out
}

// reducibleByHand looks, without the back edges, for ways of ever more edges from a node to itself.
func reducibleByHand(g impl.Graph) bool {
	w := webOf(g)
	come := w.comeTo(-1)
	for _, edge := range backEdgesByHand(g) {
		w[edge[0]][edge[1]] = false
	}
	for by := range w {
		for from := range w {
			for to := range w {
				w[from][to] = w[from][to] || come[from] && w[from][by] && w[by][to]
			}
		}
	}
	for at := range w {
		if come[at] && w[at][at] {
			return false
		}
	}
	return true
}

// rule is one use of the two rules: an edge from a node to itself goes, or a node goes into its leader.
type rule struct{ node, leader int }

// rulesFor tells each use that there is; the edge of a node to itself goes ahead of it.
func (w web) rulesFor(left []bool) []rule {
	var out []rule
	for node := range w {
		if !left[node] {
			continue
		}
		if w[node][node] {
			out = append(out, rule{node, node})
			continue
		}
		var leaders []int
		for at := range w {
			if left[at] && w[at][node] {
				leaders = append(leaders, at)
			}
		}
		if node != 0 && len(leaders) == 1 {
			out = append(out, rule{node, leaders[0]})
		}
	}
	return out
}

// limitByHand uses the two rules in the order that is picked.
func limitByHand(g impl.Graph, pick func(int) int) int {
	w := webOf(g)
	left := w.comeTo(-1)
	for rules := w.rulesFor(left); len(rules) > 0; rules = w.rulesFor(left) {
		use := rules[pick(len(rules))]
		w[use.leader][use.node] = false
		if use.leader == use.node {
			continue
		}
		left[use.node] = false
		for to := range w {
			w[use.leader][to] = w[use.leader][to] || w[use.node][to]
		}
	}
	return countOf(left)
}

func countOf(l []bool) int {
	many := 0
	for _, is := range l {
		if is {
			many++
		}
	}
	return many
}

// splitByHand tells no node where k can't be split.
func splitByHand(g impl.Graph, k int, from int) impl.Graph {
	many := len(g.Next)
	if k <= 0 || k >= many || from < 0 || from >= many || many >= 12 || !webOf(g)[from][k] {
		return impl.Graph{}
	}
	w := emptyWeb(many + 1)
	for at, row := range webOf(g) {
		copy(w[at], row)
	}
	copy(w[many], w[k])
	w[from][k], w[from][many] = false, true
	return w.graph()
}

func firstOf(int) int { return 0 }

func lastOf(below int) int { return below - 1 }

// checkGraph holds all that is told of a good graph against what is worked out by hand; it tells whether it is reducible.
func checkGraph(t *testing.T, g impl.Graph) bool {
	t.Helper()
	before := copyLists(g.Next)
	if !impl.GoodGraph(g) || !goodGraphByHand(g) {
		t.Fatalf("GoodGraph(%v)", g)
	}
	if got, ok := impl.OrderOf(g); !slices.Equal(got, orderByHand(g, 0, make([]bool, len(g.Next)))) || !ok {
		t.Fatalf("OrderOf(%v): %v %v", g, got, ok)
	}
	if got, ok := impl.DominatorsIn(g); !sameLists(got, dominatorsByHand(g)) || !ok {
		t.Fatalf("DominatorsIn(%v): %v %v, not %v", g, got, ok, dominatorsByHand(g))
	}
	if got, ok := impl.BackEdgesIn(g); !sameLists(got, backEdgesByHand(g)) || !ok {
		t.Fatalf("BackEdgesIn(%v): %v %v, not %v", g, got, ok, backEdgesByHand(g))
	}
	reducible, ok := impl.IsReducible(g)
	if reducible != reducibleByHand(g) || !ok {
		t.Fatalf("IsReducible(%v): %v %v", g, reducible, ok)
	}
	limit, ok := impl.LimitOf(g)
	if limit != limitByHand(g, firstOf) || limit != limitByHand(g, lastOf) || !ok {
		t.Fatalf("LimitOf(%v): %v %v, not %d", g, limit, ok, limitByHand(g, lastOf))
	}
	if reducible != (limit == 1) {
		t.Fatalf("%v comes to %d, and is reducible: %v", g, limit, reducible)
	}
	if !sameLists(g.Next, before) {
		t.Fatalf("%v was %v", g, before)
	}
	return reducible
}

// checkSplit holds what is told of a good graph, split, against what is worked out by hand.
func checkSplit(t *testing.T, g impl.Graph, k int, from int) (impl.Graph, bool) {
	t.Helper()
	before := copyLists(g.Next)
	got, ok := impl.SplitNode(g, k, from)
	want := splitByHand(g, k, from)
	if !sameLists(got.Next, want.Next) || ok != (len(want.Next) > 0) {
		t.Fatalf("SplitNode(%v, %d, %d): %v %v, not %v", g, k, from, got, ok, want)
	}
	if !sameLists(g.Next, before) {
		t.Fatalf("%v was %v", g, before)
	}
	return got, ok
}

// checkSplits splits all nodes, and some that there are not, from all nodes; it tells how many can be.
func checkSplits(t *testing.T, g impl.Graph) int {
	t.Helper()
	many := 0
	for k := -2; k <= len(g.Next)+1; k++ {
		for from := -2; from <= len(g.Next)+1; from++ {
			if _, ok := checkSplit(t, g, k, from); ok {
				many++
			}
		}
	}
	return many
}

// checkNoGraph looks for the zero answer of every function that takes a graph.
func checkNoGraph(t *testing.T, g impl.Graph) {
	t.Helper()
	before := copyLists(g.Next)
	if impl.GoodGraph(g) || goodGraphByHand(g) {
		t.Errorf("GoodGraph(%v)", g)
	}
	if got, ok := impl.IsReducible(g); got || ok {
		t.Errorf("IsReducible(%v): %v %v", g, got, ok)
	}
	if got, ok := impl.LimitOf(g); got != 0 || ok {
		t.Errorf("LimitOf(%v): %v %v", g, got, ok)
	}
	if got, ok := impl.DominatorsIn(g); len(got) != 0 || ok {
		t.Errorf("DominatorsIn(%v): %v %v", g, got, ok)
	}
	if got, ok := impl.BackEdgesIn(g); len(got) != 0 || ok {
		t.Errorf("BackEdgesIn(%v): %v %v", g, got, ok)
	}
	if got, ok := impl.OrderOf(g); len(got) != 0 || ok {
		t.Errorf("OrderOf(%v): %v %v", g, got, ok)
	}
	for k := -1; k <= len(g.Next); k++ {
		for from := -1; from <= len(g.Next); from++ {
			if got, ok := impl.SplitNode(g, k, from); len(got.Next) != 0 || ok {
				t.Errorf("SplitNode(%v, %d, %d): %v %v", g, k, from, got, ok)
			}
		}
	}
	if !sameLists(g.Next, before) {
		t.Errorf("%v was %v", g, before)
	}
}

// row is a graph of so many nodes, each leading to the next one.
func row(many int) impl.Graph {
	out := impl.Graph{Next: make([][]int, many)}
	for at := range many - 1 {
		out.Next[at] = []int{at + 1}
	}
	return out
}

// full is a graph of so many nodes, each leading to all, itself among them.
func full(many int) impl.Graph {
	var out impl.Graph
	for range many {
		out.Next = append(out.Next, places(many))
	}
	return out
}

// Promise 7: graphs have 1..MaxNodes nodes.
func TestGraphSizes(t *testing.T) {
	if impl.MaxNodes != 12 {
		t.Error(impl.MaxNodes)
	}
	for many := 1; many <= 12; many++ {
		checkGraph(t, row(many))
		checkGraph(t, full(many))
		checkGraph(t, impl.Graph{Next: make([][]int, many)})
		checkSplits(t, full(many))
	}
	for _, many := range []int{13, 14, 64, 1000} {
		for _, g := range []impl.Graph{row(many), full(min(many, 64)), {Next: make([][]int, many)}} {
			if impl.GoodGraph(g) {
				t.Error("GoodGraph of so many nodes: ", many)
			}
		}
	}
	checkNoGraph(t, row(13))
	checkNoGraph(t, full(13))
	checkNoGraph(t, impl.Graph{Next: make([][]int, 13)})
	checkNoGraph(t, impl.Graph{})
	checkNoGraph(t, impl.Graph{Next: [][]int{}})
	checkNoGraph(t, impl.Graph{Next: row(3).Next[:0]})
}

// wrongNexts are no Next in a graph of so many nodes.
func wrongNexts(many int) [][]int {
	out := [][]int{
		{-1}, {many}, {many + 1}, {math.MinInt}, {math.MaxInt}, {0, 0}, {many - 1, many - 1},
		{-1, 0}, {0, many}, {0, -1}, {many, 0}, {math.MinInt, math.MaxInt}, {-many}, {12}, {13},
		append(places(many), many-1), append(places(many), 0), append(places(many), many), slices.Repeat([]int{0}, 100),
	}
	if many > 1 {
		back := places(many)
		slices.Reverse(back)
		out = append(out, back, []int{1, 0}, []int{many - 1, 0}, []int{0, 1, 1}, []int{0, 1, 0}, []int{0, 0, 1})
	}
	if many > 3 {
		out = append(out, []int{0, 2, 1, 3}, []int{0, 1, 3, 2}, []int{1, 0, 2, 3}, []int{0, 2, 2, 3}, []int{1, 2, 3, 3})
	}
	return out
}

// Promises 7 and 19: the Next of every node are rising nodes of the graph, also where the node is not come to.
func TestGraphWrongNext(t *testing.T) {
	for many := 1; many <= 12; many++ {
		for _, next := range wrongNexts(many) {
			for at := range many {
				for _, g := range []impl.Graph{row(many), full(many), {Next: make([][]int, many)}} {
					g.Next[at] = next
					checkNoGraph(t, g)
				}
			}
		}
	}
}

// Promise 7: every node may have any rising Next.
func TestGraphEveryNext(t *testing.T) {
	for many := 1; many <= 12; many++ {
		for at := range many {
			g := row(many)
			for bits := 0; bits < 1<<many; bits += 1 + bits/50 {
				g.Next[at] = nil
				for to := range many {
					if bits>>to&1 == 1 {
						g.Next[at] = append(g.Next[at], to)
					}
				}
				checkGraph(t, g)
			}
		}
	}
}

type graphCase struct {
	text       string
	order      string
	dominators string
	back       string // two numbers for each edge
	limit      int
}

func checkGraphs(t *testing.T, cases []graphCase) {
	t.Helper()
	for _, c := range cases {
		g := graph(c.text)
		if got, ok := impl.OrderOf(g); !slices.Equal(got, numbersOf(strings.Fields(c.order))) || !ok {
			t.Errorf("OrderOf(%v): %v %v, not %s", g, got, ok, c.order)
		}
		if got, ok := impl.DominatorsIn(g); !sameLists(got, lists(c.dominators)) || !ok {
			t.Errorf("DominatorsIn(%v): %v %v, not %s", g, got, ok, c.dominators)
		}
		var back [][]int
		if c.back != "" {
			back = lists(c.back)
		}
		if got, ok := impl.BackEdgesIn(g); !sameLists(got, back) || !ok {
			t.Errorf("BackEdgesIn(%v): %v %v, not %s", g, got, ok, c.back)
		}
		if got, ok := impl.LimitOf(g); got != c.limit || !ok {
			t.Errorf("LimitOf(%v): %v %v, not %d", g, got, ok, c.limit)
		}
		if got, ok := impl.IsReducible(g); got != (c.limit == 1) || !ok {
			t.Errorf("IsReducible(%v): %v %v", g, got, ok)
		}
		checkGraph(t, g)
		checkSplits(t, g)
	}
}

// Promise 7: one node, and two.
func TestGraphOfFew(t *testing.T) {
	checkGraphs(t, []graphCase{
		{"", "0", "0", "", 1},
		{"0", "0", "0", "0 0", 1},
		{";", "0", "0;", "", 1},
		{"0;", "0", "0;", "0 0", 1},
		{"1;", "0 1", "0; 0 1", "", 1},
		{"1; 0", "0 1", "0; 0 1", "1 0", 1},
		{"1; 1", "0 1", "0; 0 1", "1 1", 1},
		{"0 1; 0 1", "0 1", "0; 0 1", "0 0; 1 0; 1 1", 1},
		// 1 is not come to: nor are its edges told
		{";0", "0", "0;", "", 1},
		{";1", "0", "0;", "", 1},
		{"0; 0 1", "0", "0;", "0 0", 1},
	})
}

// Promise 7: at each node Next are gone through in order, the last one's nodes are told first.
func TestGraphOrder(t *testing.T) {
	checkGraphs(t, []graphCase{
		{"1 2;;", "0 2 1", "0; 0 1; 0 2", "", 1},
		{"1 2 3;;;", "0 3 2 1", "0; 0 1; 0 2; 0 3", "", 1},
		{"1 2; 3; 3;", "0 2 1 3", "0; 0 1; 0 2; 0 3", "", 1},
		{"1 2; 2;", "0 1 2", "0; 0 1; 0 2", "", 1},
		{"1 2;; 1", "0 2 1", "0; 0 1; 0 2", "", 1},
		{"1 3; 2; 3; 2", "0 1 2 3", "0; 0 1; 0 2; 0 3", "", 3},
		{"2 3; ; 1; 1 2", "0 3 2 1", "0; 0 1; 0 2; 0 3", "", 1},
		{"1 4; 2 3;;; 5 6;;", "0 4 6 5 1 3 2", "0; 0 1; 0 1 2; 0 1 3; 0 4; 0 4 5; 0 4 6", "", 1},
		{"3; ; 1; 2", "0 3 2 1", "0; 0 1 2 3; 0 2 3; 0 3", "", 1},
		{"1; 2 3; 1;", "0 1 3 2", "0; 0 1; 0 1 2; 0 1 3", "2 1", 1},
		// not come to: 2, and in the last one 1 and 2, too, that lead to what is
		{"1 3; 3; 1 3;", "0 1 3", "0; 0 1; ; 0 3", "", 1},
		{"3; 2; 1 3; 0", "0 3", "0; ; ; 0 3", "3 0", 1},
		{"; 0 1; 1 2", "0", "0;;", "", 1},
		// to itself, and back to 0
		{"0 1; 1 2; 0 2", "0 1 2", "0; 0 1; 0 1 2", "0 0; 1 1; 2 0; 2 2", 1},
		{"2; 0; 1", "0 2 1", "0; 0 1 2; 0 2", "1 0", 1},
	})
}

// Promise 7: ways that meet again, and ways round that are entered at one place or at two.
func TestGraphDominators(t *testing.T) {
	checkGraphs(t, []graphCase{
		{"1 2; 3; 3; 4;", "0 2 1 3 4", "0; 0 1; 0 2; 0 3; 0 3 4", "", 1},
		{"1; 2 3; 4; 4; 5;", "0 1 3 2 4 5", "0; 0 1; 0 1 2; 0 1 3; 0 1 4; 0 1 4 5", "", 1},
		{"1; 2 3; 4; 4; 1 5;", "0 1 3 2 4 5", "0; 0 1; 0 1 2; 0 1 3; 0 1 4; 0 1 4 5", "4 1", 1},
		// entered at two places
		{"1 2; 2; 1", "0 1 2", "0; 0 1; 0 2", "", 3},
		{"1 2; 2 3; 1 3;", "0 1 2 3", "0; 0 1; 0 2; 0 3", "", 4},
		{"1 2; 2 3; 1; 0", "0 1 3 2", "0; 0 1; 0 2; 0 1 3", "3 0", 3},
		{"1; 2 3; 3; 1 2", "0 1 2 3", "0; 0 1; 0 1 2; 0 1 3", "3 1", 4},
		// entered at its head alone
		{"1; 2; 3; 1 4;", "0 1 2 3 4", "0; 0 1; 0 1 2; 0 1 2 3; 0 1 2 3 4", "3 1", 1},
		{"1; 2; 2 3; 1 4;", "0 1 2 3 4", "0; 0 1; 0 1 2; 0 1 2 3; 0 1 2 3 4", "2 2; 3 1", 1},
		{"1; 2; 1 3; 2 4; 0", "0 1 2 3 4", "0; 0 1; 0 1 2; 0 1 2 3; 0 1 2 3 4", "2 1; 3 2; 4 0", 1},
		// 4 is not come to; through it 3 would be come to in another way
		{"1; 2; 3; 1; 0 3", "0 1 2 3", "0; 0 1; 0 1 2; 0 1 2 3;", "3 1", 1},
		// it shows late that 4 has a way past 1 and 2
		{"1 5; 2; 3; 4; 3; 4", "0 5 1 2 3 4", "0; 0 1; 0 1 2; 0 3; 0 4; 0 5", "", 3},
		{"2 3; 4; 1; 1; 2 5; 3", "0 2 1 4 5 3", "0; 0 1; 0 2; 0 3; 0 1 4; 0 1 4 5", "", 4},
	})
}

// Promise 7: an edge to itself goes first, then a node goes to which just one other one leads.
func TestGraphLimit(t *testing.T) {
	for _, c := range []struct {
		text  string
		limit int
	}{
		{"0", 1},
		{"0 1; 1", 1},
		{"0 1; 0 1", 1},
		// one other node leads there, beside itself
		{"1; 1 2; 2", 1},
		{"1 2; 1 2; 2", 1},
		// it leads to itself when the other one went
		{"1; 2; 1", 1},
		{"1; 2; 3; 1", 1},
		{"1; 2; 3; 1 2", 1},
		// both lead to the same node
		{"1 2; 2;", 1},
		{"1 2 3; 2 3; 3;", 1},
		{"1 2 3; 0 2 3; 0 3; 0", 1},
		// not come to
		{"1; 2; ; 1 2", 1},
		{"1; ; 1 3; 2", 1},
		{"; 2; 1", 1},
		{"; 2 3; 1 3; 1 2", 1},
		{"3; 2; 1; 0", 1},
		// no rule can be used
		{"1 2; 2; 1", 3},
		{"1 2 3; 2 3; 1 3; 1 2", 4},
		{"1 2; 3; 4; 2 4; 1 3", 5},
		// 0 does not go, though just one leads to it
		{"1 2; 0 2; 1", 3},
		{"1 2; 2; 0 1", 3},
		// a rule can be used, and then none
		{"0 1 2; 1 2; 1 2", 3},
		{"3; 2; 1; 1 2", 3},
		{"1 2; 2; 1 3; 4; 5; 3", 3},
		{"1 2; 2; 1 3; 4; 5; 2 3", 3},
		{"1 2; 2; 1; 4; 3", 3},
		{"1 2; 2 3 5; 1 4 5; 5; 5;", 4},
		{"1 2; 2 3; 1 4; 4; 3", 5},
	} {
		g := graph(c.text)
		if got, ok := impl.LimitOf(g); got != c.limit || !ok {
			t.Errorf("LimitOf(%v): %v %v, not %d", g, got, ok, c.limit)
		}
		checkGraph(t, g)
	}
}

// Promise 7: graphs that come to any number of nodes but two.
func TestGraphEveryLimit(t *testing.T) {
	for many := 3; many <= 12; many++ {
		g := full(many) // 0 leads to each, each to each other one: none can go
		if got, ok := impl.LimitOf(g); got != many || !ok {
			t.Errorf("LimitOf(%v): %v %v", g, got, ok)
		}
		for longer := many + 1; longer <= 12; longer++ {
			g.Next[longer-2] = append(g.Next[longer-2], longer-1)
			g.Next = append(g.Next, nil)
			if got, ok := impl.LimitOf(g); got != many || !ok {
				t.Errorf("LimitOf(%v): %v %v, not %d", g, got, ok, many)
			}
			checkGraph(t, g)
		}
	}
}

// Promise 7: a node that is split leads where it led; the one that led to it leads to the new one instead.
func TestGraphSplit(t *testing.T) {
	for _, c := range []struct {
		text    string
		k, from int
		want    string
	}{
		{"1;", 1, 0, "2;;"},
		{"1; 0", 1, 0, "2; 0; 0"},
		{"1 2; 2; 1", 2, 0, "1 3; 2; 1; 1"},
		{"1 2; 2; 1", 1, 0, "2 3; 2; 1; 2"},
		{"1 2; 2; 1", 2, 1, "1 2; 3; 1; 1"},
		{"1 2; 2; 1", 1, 2, "1 2; 2; 3; 2"},
		// the new one stands last in from's Next, wherever k stood
		{"1 2 3; 0; 0 1; 0 2 3", 1, 0, "2 3 4; 0; 0 1; 0 2 3; 0"},
		{"1 2 3; 0; 0 1; 0 2 3", 2, 0, "1 3 4; 0; 0 1; 0 2 3; 0 1"},
		{"1 2 3; 0; 0 1; 0 2 3", 3, 0, "1 2 4; 0; 0 1; 0 2 3; 0 2 3"},
		{"1 2 3; 0; 0 1; 0 2 3", 2, 3, "1 2 3; 0; 0 1; 0 3 4; 0 1"},
		// to itself: the new one leads to k, as k did
		{"1; 1", 1, 1, "1; 2; 1"},
		{"1; 0 1", 1, 1, "1; 0 2; 0 1"},
		{"1; 0 1", 1, 0, "2; 0 1; 0 1"},
		{"1 2; 1; 0 1 2", 2, 2, "1 2; 1; 0 1 3; 0 1 2"},
		// not come to
		{"; 2; 1", 2, 1, "; 3; 1; 1"},
		{"; 0 2;", 2, 1, "; 0 3;;"},
		{"; 1", 1, 1, "; 2; 1"},
	} {
		g := graph(c.text)
		if got, ok := impl.SplitNode(g, c.k, c.from); !sameLists(got.Next, lists(c.want)) || !ok {
			t.Errorf("SplitNode(%v, %d, %d): %v %v, not %s", g, c.k, c.from, got, ok, c.want)
		}
		got, _ := checkSplit(t, g, c.k, c.from)
		checkGraph(t, got)
		checkSplits(t, g)
	}
}

// Promises 7 and 19: 0 is not split, nor what is no Next, nor what is no node; and there are no more than MaxNodes nodes then.
func TestGraphNoSplit(t *testing.T) {
	some := []int{math.MinInt, -13, -12, -2, -1, 0, 1, 2, 3, 4, 11, 12, 13, math.MaxInt}
	for _, text := range []string{"", "0", "0 1; 0 1", "1; 2; 0", "0 1 2; 0 1 2; 0 1 2", "1 2; 2; 1", "1; 0; 0 1 2; 0 1 2 3"} {
		g := graph(text)
		for _, k := range some {
			for _, from := range some {
				checkSplit(t, g, k, from)
			}
		}
		for from := range g.Next {
			if got, ok := impl.SplitNode(g, 0, from); len(got.Next) != 0 || ok {
				t.Errorf("SplitNode(%v, 0, %d): %v %v", g, from, got, ok)
			}
		}
	}
	for many := 2; many <= 12; many++ {
		can := checkSplits(t, full(many))
		if want := many * (many - 1); many < 12 && can != want || many == 12 && can != 0 {
			t.Errorf("%d nodes: %d can be split", many, can)
		}
	}
	if got, ok := impl.SplitNode(row(11), 10, 9); len(got.Next) != 12 || !ok {
		t.Error(got, ok)
	}
	if got, ok := impl.SplitNode(row(12), 11, 10); len(got.Next) != 0 || ok {
		t.Error(got, ok)
	}
}

// Promise 7: a way round with two entries has one, when the node at which it is entered is split often enough.
func TestGraphSplitReduces(t *testing.T) {
	for _, c := range []struct {
		text   string
		splits [][2]int
		limits []int
	}{
		{"1 2; 2; 1", [][2]int{{2, 0}}, []int{3, 1}},
		{"1 2; 2; 1", [][2]int{{2, 1}}, []int{3, 1}},
		{"1 2 3; 2; 3; 1", [][2]int{{2, 0}, {3, 0}, {3, 4}}, []int{4, 3, 3, 1}},
	} {
		g := graph(c.text)
		for i, want := range c.limits {
			if got, ok := impl.LimitOf(g); got != want || !ok {
				t.Errorf("LimitOf(%v): %v %v, not %d", g, got, ok, want)
			}
			checkGraph(t, g)
			if i < len(c.splits) {
				g, _ = checkSplit(t, g, c.splits[i][0], c.splits[i][1])
			}
		}
	}
}

// allGraphs goes through all graphs of so many nodes.
func allGraphs(many int, look func(g impl.Graph)) {
	w := emptyWeb(many)
	for bits := range 1 << (many * many) {
		for place := range many * many {
			w[place/many][place%many] = bits>>place&1 == 1
		}
		look(w.graph())
	}
}

// Promise 7: every graph of up to three nodes, with every node split, and the rules used in many orders.
func TestGraphAllSmall(t *testing.T) {
	pick := someSource()
	for many := 1; many <= 3; many++ {
		reducible, not := 0, 0
		allGraphs(many, func(g impl.Graph) {
			if checkGraph(t, g) {
				reducible++
			} else {
				not++
			}
			limit, _ := impl.LimitOf(g)
			for range 10 {
				if again := limitByHand(g, pick); again != limit {
					t.Fatalf("LimitOf(%v): %d, not %d", g, limit, again)
				}
			}
			checkSplits(t, g)
		})
		// Those that are not: 0 leads to 1 and to 2, and these to each other; the other five edges are as they are.
		if want := []int{0, 0, 0, 32}[many]; not != want || reducible != 1<<(many*many)-want {
			t.Errorf("%d nodes: %d and %d", many, reducible, not)
		}
	}
}

// Promise 7: every graph of four nodes without edges to themselves.
func TestGraphAllOfFour(t *testing.T) {
	not := 0
	allGraphs(4, func(g impl.Graph) {
		for at, next := range g.Next {
			if slices.Contains(next, at) {
				return
			}
		}
		if !checkGraph(t, g) {
			not++
		}
	})
	if not < 500 {
		t.Error("so few are not reducible: ", not)
	}
}

// grownGraph is a graph of up to MaxNodes nodes, with few edges or with many.
func grownGraph(pick func(int) int) impl.Graph {
	many := 1 + pick(12)
	w, often := emptyWeb(many), 2+pick(2*many)
	for at := range w {
		for to := range w {
			w[at][to] = pick(often) == 0
		}
		if pick(3) > 0 {
			w[at][(at+1)%many] = true
		}
	}
	return w.graph()
}

// renumbered gives nodes new numbers; 0 stays 0.
func renumbered(g impl.Graph, numbers []int) impl.Graph {
	w := emptyWeb(len(g.Next))
	for at, next := range g.Next {
		for _, to := range next {
			w[numbers[at]][numbers[to]] = true
		}
	}
	return w.graph()
}

// mixedNumbers tells the numbers below many, 0 first, the others mixed.
func mixedNumbers(many int, pick func(int) int) []int {
	out := places(many)
	for at := 2; at < many; at++ {
		other := 1 + pick(at)
		out[at], out[other] = out[other], out[at]
	}
	return out
}

// grownReducible grows a graph from one node by the two rules turned round: a node has an edge to itself, or it becomes two, the first of which alone leads to the second.
func grownReducible(pick func(int) int, many int) impl.Graph {
	w := emptyWeb(many)
	w[0][0] = pick(2) == 0
	for node := 1; node < many; node++ {
		leader := pick(node)
		w[leader][leader] = w[leader][leader] || pick(3) == 0
		for to := range node {
			if !w[leader][to] {
				continue
			}
			how := pick(3)
			w[node][to] = how != 0
			w[leader][to] = how != 1
		}
		w[leader][node] = true
		w[node][node] = pick(4) == 0
	}
	return renumbered(w.graph(), mixedNumbers(many, pick))
}

// Promise 7: grown graphs of up to MaxNodes nodes, with the rules used in many orders.
func TestGraphMixed(t *testing.T) {
	pick := someSource()
	var reducible, not, sizes [13]int
	for range 6000 {
		g := grownGraph(pick)
		if checkGraph(t, g) {
			reducible[len(g.Next)]++
		} else {
			not[len(g.Next)]++
		}
		limit, _ := impl.LimitOf(g)
		sizes[limit]++
		for range 3 {
			if again := limitByHand(g, pick); again != limit {
				t.Fatalf("LimitOf(%v): %d, not %d", g, limit, again)
			}
		}
	}
	if slices.Min(reducible[1:]) < 50 || slices.Min(not[4:]) < 50 || sizes[2] != 0 || slices.Min(sizes[3:12]) < 20 {
		t.Errorf("so few of: %v %v %v", reducible, not, sizes)
	}
}

// Promise 7: graphs that are grown by the rules turned round are reducible; with one edge more they may be so or not.
func TestGraphGrownReducible(t *testing.T) {
	pick := someSource()
	back, not := 0, 0
	for range 3000 {
		g := grownReducible(pick, 1+pick(12))
		if !checkGraph(t, g) {
			t.Fatalf("IsReducible(%v)", g)
		}
		edges, _ := impl.BackEdgesIn(g)
		back += len(edges)
		w := webOf(g)
		w[pick(len(w))][pick(len(w))] = true
		if !checkGraph(t, w.graph()) {
			not++
		}
	}
	if back < 3000 || not < 300 {
		t.Errorf("so few of: %d back edges, %d not reducible", back, not)
	}
}

// Promise 7: but for 0 the numbers of nodes do not matter to dominators, back edges, and to how many nodes a graph comes.
func TestGraphRenumbered(t *testing.T) {
	pick := someSource()
	for range 1500 {
		g := grownGraph(pick)
		numbers := mixedNumbers(len(g.Next), pick)
		other := renumbered(g, numbers)
		limit, _ := impl.LimitOf(g)
		if got, ok := impl.LimitOf(other); got != limit || !ok {
			t.Fatalf("LimitOf(%v): %d %v; of %v: %d", other, got, ok, g, limit)
		}
		dominators, _ := impl.DominatorsIn(g)
		got, _ := impl.DominatorsIn(other)
		for at, list := range dominators {
			var want []int
			for _, node := range list {
				want = append(want, numbers[node])
			}
			slices.Sort(want)
			if !slices.Equal(got[numbers[at]], want) {
				t.Fatalf("DominatorsIn(%v): %v; of %v: %v", other, got, g, dominators)
			}
		}
		edges, _ := impl.BackEdgesIn(g)
		if back, _ := impl.BackEdgesIn(other); len(back) != len(edges) {
			t.Fatalf("BackEdgesIn(%v): %v; of %v: %v", other, back, g, edges)
		}
	}
}

// Promise 7: nodes that are not come to change nothing, wherever they lead.
func TestGraphNotComeTo(t *testing.T) {
	pick := someSource()
	for range 1500 {
		g := grownReducible(pick, 1+pick(10))
		if pick(2) == 0 {
			g = grownGraph(pick)
			g.Next = g.Next[:min(len(g.Next), 9)]
			for at := range g.Next {
				g.Next[at] = slices.DeleteFunc(g.Next[at], func(to int) bool { return to >= len(g.Next) })
			}
		}
		more := emptyWeb(12)
		for at, row := range webOf(g) {
			copy(more[at], row)
		}
		for at := len(g.Next); at < 12; at++ {
			for to := range more {
				more[at][to] = pick(3) == 0
			}
		}
		other := more.graph()
		checkGraph(t, other)
		order, _ := impl.OrderOf(g)
		if got, ok := impl.OrderOf(other); !slices.Equal(got, order) || !ok {
			t.Fatalf("OrderOf(%v): %v %v, not %v", other, got, ok, order)
		}
		dominators, _ := impl.DominatorsIn(g)
		want := append(dominators, make([][]int, 12-len(g.Next))...)
		if got, ok := impl.DominatorsIn(other); !sameLists(got, want) || !ok {
			t.Fatalf("DominatorsIn(%v): %v %v, not %v", other, got, ok, want)
		}
		edges, _ := impl.BackEdgesIn(g)
		if got, ok := impl.BackEdgesIn(other); !sameLists(got, edges) || !ok {
			t.Fatalf("BackEdgesIn(%v): %v %v, not %v", other, got, ok, edges)
		}
		limit, _ := impl.LimitOf(g)
		if got, ok := impl.LimitOf(other); got != limit || !ok {
			t.Fatalf("LimitOf(%v): %v %v, not %d", other, got, ok, limit)
		}
	}
}

// Promise 7: grown graphs, split at any node, again and again.
func TestGraphMixedSplits(t *testing.T) {
	pick := someSource()
	often := 0
	for range 300 {
		g := grownGraph(pick)
		often += checkSplits(t, g)
		for range 20 {
			next, ok := checkSplit(t, g, pick(len(g.Next)+1), pick(len(g.Next)+1))
			if ok {
				g = next
				checkGraph(t, g)
			}
		}
	}
	if often < 1000 {
		t.Error("so few were split: ", often)
	}
}

// graphByHand looks for each two blocks whether the first one leads to the second.
func graphByHand(f []impl.Block) impl.Graph {
	w := emptyWeb(len(f))
	for at := range f {
		for to := range f {
			w[at][to] = slices.Contains(f[at].Next, to)
		}
	}
	return w.graph()
}

// checkGraphOf holds the graph of a good flow against that made by hand; it tells whether there is one.
func checkGraphOf(t *testing.T, f []impl.Block) (impl.Graph, bool) {
	t.Helper()
	before := copyFlow(f)
	got, ok := impl.GraphOf(f)
	want := graphByHand(f)
	if len(f) > 12 {
		want = impl.Graph{}
	}
	if !sameLists(got.Next, want.Next) || ok != (len(f) <= 12) {
		t.Fatalf("GraphOf(%v): %v %v, not %v", f, got, ok, want)
	}
	if !sameFlow(f, before) {
		t.Fatalf("%v was %v", f, before)
	}
	return got, ok
}

// checkNoGraphOf looks for the zero answer.
func checkNoGraphOf(t *testing.T, f []impl.Block) {
	t.Helper()
	before := copyFlow(f)
	if got, ok := impl.GraphOf(f); len(got.Next) != 0 || ok {
		t.Errorf("GraphOf(%v): %v %v", f, got, ok)
	}
	if !sameFlow(f, before) {
		t.Errorf("%v was %v", f, before)
	}
}

// Promise 7: the graph of blocks has an edge once, rising, and blocks that are not come to.
func TestGraphOfFlow(t *testing.T) {
	for _, c := range []struct{ flow, want string }{
		{"end", ""},
		{"trap", ""},
		{"to 0", "0"},
		{"if 3 0 0", "0"},
		{"if 3 1 1; end", "1;"},
		{"if 3 1 0; end", "0 1;"},
		{"if 3 0 1; end", "0 1;"},
		{"if 3 2 1; end; trap", "1 2;;"},
		{"table 0 1 1 1; end", "1;"},
		{"table 0 2 1 2 0 1; end; to 1", "0 1 2;; 1"},
		{"table 5 5 4 3 2 1 0; end; end; end; trap; to 4", "0 1 2 3 4 5;;;;; 4"},
		{"table 5 3 3 1 3 1 1; table 0 2 0; to 1; const 3 4, if 3 1 0", "1 3; 0 2; 1; 0 1"},
		// not come to: they stay, with their edges
		{"end; to 0", "; 0"},
		{"to 2; if 1 0 1; out 3, end", "2; 0 1;"},
		{"end; to 2; to 1; trap", "; 2; 1;"},
		{"to 1; out 3, out 4, if 7 2 1; store 1 2, to 1", "1; 1 2; 1"},
	} {
		f := flow(c.flow)
		got, ok := checkGraphOf(t, f)
		if !sameLists(got.Next, lists(c.want)) || !ok {
			t.Errorf("GraphOf(%s): %v %v, not %s", c.flow, got, ok, c.want)
		}
		checkGraph(t, got)
	}
}

// Promises 7 and 19: a flow of MaxNodes blocks, and of more; flows that are not good.
func TestGraphOfFlowSizes(t *testing.T) {
	for many := 1; many <= 64; many++ {
		f := chain(make([]int, many), places(many))
		if _, ok := checkGraphOf(t, f); ok != (many <= 12) {
			t.Error(many, ok)
		}
		f[many-1] = impl.Block{Go: impl.GoTo, Next: []int{many}}
		checkNoGraphOf(t, f)
		f[many-1] = impl.Block{Go: impl.GoTo, Next: []int{-1}}
		checkNoGraphOf(t, f)
	}
	checkNoGraphOf(t, nil)
	checkNoGraphOf(t, []impl.Block{})
	checkNoGraphOf(t, chain(make([]int, 65), places(65)))
	for _, f := range [][]impl.Block{
		{{}}, {{Go: 6}}, {{Go: -1}}, {{Go: 1}}, {{Go: 2, Next: []int{0}}}, {{Go: 3, Next: []int{0}}}, {{Go: 4, Next: []int{0}}},
		{{Go: 1, Next: []int{1}}}, {{Go: 1, Next: []int{-1}}}, {{Go: 1, Next: []int{0, 0}}}, {{Go: 5, Next: []int{0}}}, {{Go: 5, Next: make([]int, 7)}},
		{{Go: 1, Test: 1, Next: []int{0}}}, {{Go: 2, Test: 12, Next: []int{0, 0}}}, {{Go: 3, Test: -1}},
		{{Go: 3}, {Go: 3}, {}}, {{Go: 3}, {Go: 1, Next: []int{2}}},
		alone(impl.Flat{}), alone(impl.Flat{Op: 7}), alone(impl.Flat{Op: 1, N: 65536}), alone(impl.Flat{Op: 6, A: 12}), alone(impl.Flat{Op: 6, N: 1}),
		{{Code: slices.Repeat([]impl.Flat{{Op: 6}}, 61), Go: 3}},
	} {
		checkNoGraphOf(t, f)
	}
	checkGraphOf(t, []impl.Block{{Code: slices.Repeat([]impl.Flat{{Op: 6}}, 60), Go: 5, Test: 11, Next: make([]int, 6)}})
}

// Promise 7: the graphs of grown flows, whose blocks that are come to are those of the graph; grown flows of which something is wrong.
func TestGraphOfMixedFlows(t *testing.T) {
	pick := someSource()
	good, wrong := 0, 0
	for range 4000 {
		f := grownFlow(pick)
		if pick(3) == 0 {
			b := &f[pick(len(f))]
			fields := []*int{&b.Go, &b.Test}
			for i := range b.Next {
				fields = append(fields, &b.Next[i])
			}
			*fields[pick(len(fields))] = pick(16) - 2
		}
		if !goodFlowByHand(f) {
			wrong++
			checkNoGraphOf(t, f)
			continue
		}
		g, ok := checkGraphOf(t, f)
		if !ok {
			continue
		}
		good++
		checkGraph(t, g)
		order, _ := impl.OrderOf(g)
		slices.Sort(order)
		if reach, _ := impl.ReachIn(f); !slices.Equal(order, reach) {
			t.Fatalf("%v: %v, not %v", f, order, reach)
		}
	}
	if good < 2000 || wrong < 300 {
		t.Errorf("so few of: %d good, %d wrong", good, wrong)
	}
}

// Promise 7: blocks within blocks are entered at one place alone: the graph of code can be reduced.
func TestGraphOfCode(t *testing.T) {
	pick := someSource()
	graphs, back := 0, 0
	for range 4000 {
		f, ok := impl.LiftSteps(grownCode(pick))
		if !ok {
			continue
		}
		joined, _ := impl.JoinFlow(f)
		for _, f := range [][]impl.Block{f, joined} {
			g, ok := checkGraphOf(t, f)
			if !ok {
				continue
			}
			graphs++
			if !checkGraph(t, g) {
				t.Fatalf("IsReducible(%v), of %v", g, f)
			}
			edges, _ := impl.BackEdgesIn(g)
			back += len(edges)
		}
	}
	if graphs < 2000 || back < 100 {
		t.Errorf("so few of: %d graphs, %d back edges", graphs, back)
	}
}

// Promise 19: good graphs with any one number become anything, or one list more or less.
func TestGraphAnything(t *testing.T) {
	pick := someSource()
	some := []int{math.MinInt, -13, -1, 0, 1, 2, 3, 5, 9, 10, 11, 12, 13, 64, math.MaxInt}
	wrong := 0
	for range 4000 {
		g := grownGraph(pick)
		at := pick(len(g.Next))
		switch pick(5) {
		case 0:
			g.Next = g.Next[:at]
		case 1:
			g.Next = append(g.Next, g.Next[at])
		case 2:
			g.Next[at] = append(g.Next[at], some[pick(len(some))])
		default:
			if many := len(g.Next[at]); many > 0 {
				g.Next[at][pick(many)] = some[pick(len(some))]
			}
		}
		if goodGraphByHand(g) {
			checkGraph(t, g)
			continue
		}
		wrong++
		checkNoGraph(t, g)
	}
	if wrong < 1500 {
		t.Error("so few are wrong: ", wrong)
	}
}

// Promise 19: nil lists and empty ones are alike.
func TestGraphOfNothing(t *testing.T) {
	memory := places(5)
	for _, none := range [][]int{nil, {}, memory[:0], memory[5:]} {
		for _, other := range [][]int{nil, {}, memory[3:3]} {
			g := impl.Graph{Next: [][]int{{1}, other, none}}
			if !checkGraph(t, g) {
				t.Error(g)
			}
			checkSplits(t, g)
			g.Next[0] = none
			checkGraph(t, g)
			checkGraphOf(t, []impl.Block{{Go: 3, Next: none}, {Go: 4, Next: other}})
		}
	}
}

// sharedGraph is a graph whose lists lie in one memory, with something behind their lengths, and with lists behind it.
func sharedGraph() (impl.Graph, [][]int, []int) {
	numbers := []int{0, 1, 2, 3, 4, -5, 77, 78}
	rows := [][]int{numbers[1:3], numbers[2:5], numbers[:2], numbers[3:4], numbers[:0], {99}, numbers[4:]}
	return impl.Graph{Next: rows[:5]}, rows, numbers
}

// Promise 19: no list that is handed in is changed, nor what lies behind it; and that tells nothing.
func TestGraphListsStay(t *testing.T) {
	g, rows, numbers := sharedGraph()
	rowsBefore, numbersBefore := copyLists(rows), slices.Clone(numbers)
	want := impl.Graph{Next: copyLists(g.Next)}
	checkGraph(t, g)
	checkSplits(t, g)
	for many := range len(rows) + 1 {
		if many == 5 {
			continue
		}
		checkNoGraph(t, impl.Graph{Next: rows[:many]})
	}
	if got, ok := impl.SplitNode(g, 2, 0); !ok || !sameLists(got.Next, lists("1 5; 2 3 4; 0 1; 3;; 0 1")) {
		t.Error(got, ok)
	}
	if !sameLists(g.Next, want.Next) || !sameLists(rows, rowsBefore) || !slices.Equal(numbers, numbersBefore) {
		t.Error(rows, numbers)
	}
	memory, flats, next := mixedMemory()
	before, flatsBefore, nextBefore := copyFlow(memory), slices.Clone(flats), slices.Clone(next)
	if got, _ := checkGraphOf(t, memory[:5]); !sameLists(got.Next, lists("1; 1 2 3; 0 3;;")) {
		t.Error(got)
	}
	checkNoGraphOf(t, memory)
	if !sameFlow(memory, before) || !slices.Equal(flats, flatsBefore) || !slices.Equal(next, nextBefore) {
		t.Error(memory, flats, next)
	}
}

// checkListsAreNew spoils each list that is told, and looks at all the other ones, at other answers, and at what stays.
func checkListsAreNew(t *testing.T, ask func() [][]int, stays func() bool) {
	t.Helper()
	want := copyLists(ask())
	for at := range want {
		first, second := ask(), ask()
		for i, got := range first {
			if slices.ContainsFunc(got[:cap(got)][len(got):], func(n int) bool { return n < 0 || n > 12 }) {
				t.Errorf("behind list %d: %v", i, got[:cap(got)])
			}
		}
		for _, got := range first[:cap(first)][len(first):] {
			if len(got) > 0 {
				t.Errorf("behind the lists: %v", got)
			}
		}
		spoilNumbers(first[at])
		for i := range first {
			if i != at && !slices.Equal(first[i], want[i]) {
				t.Errorf("list %d spoilt: %v, not %v", at, first, want)
			}
		}
		clear(first[:cap(first)])
		if third := ask(); !sameLists(second, want) || !sameLists(third, want) || !stays() {
			t.Errorf("%v and %v, not %v", second, third, want)
		}
	}
}

// Promise 19: what is told shares no memory with what was handed in, even where that shares its own, nor with other lists of the answer, nor with another answer.
func TestGraphAnswersAreNew(t *testing.T) {
	shared, rows, numbers := sharedGraph()
	rowsBefore, numbersBefore := copyLists(rows), slices.Clone(numbers)
	stays := func() bool { return sameLists(rows, rowsBefore) && slices.Equal(numbers, numbersBefore) }
	graphs := []impl.Graph{shared, row(11), full(5), graph("0 1; 0 1; 2 0"), graph("1; 1 2 3; 0 2; 2")}
	for _, g := range graphs {
		before := copyLists(g.Next)
		all := func() bool { return stays() && sameLists(g.Next, before) }
		checkListsAreNew(t, func() [][]int { got, _ := impl.DominatorsIn(g); return got }, all)
		checkListsAreNew(t, func() [][]int { got, _ := impl.BackEdgesIn(g); return got }, all)
		checkListsAreNew(t, func() [][]int { got, _ := impl.OrderOf(g); return [][]int{got} }, all)
		for k := range g.Next {
			for from := range g.Next {
				checkListsAreNew(t, func() [][]int { got, _ := impl.SplitNode(g, k, from); return got.Next }, all)
			}
		}
	}
	memory, flats, next := mixedMemory()
	before, flatsBefore, nextBefore := copyFlow(memory), slices.Clone(flats), slices.Clone(next)
	for _, f := range [][]impl.Block{memory[:5], flow("table 0 1 1 2; if 0 0 2; to 2")} {
		checkListsAreNew(t, func() [][]int { got, _ := impl.GraphOf(f); return got.Next }, func() bool {
			return sameFlow(memory, before) && slices.Equal(flats, flatsBefore) && slices.Equal(next, nextBefore)
		})
	}
}

// Promise 19: a graph whose Next are all one list is a graph as any other.
func TestGraphOneList(t *testing.T) {
	next := places(6)
	g := impl.Graph{Next: slices.Repeat([][]int{next}, 6)}
	checkGraph(t, g)
	checkSplits(t, g)
	if got, ok := impl.SplitNode(g, 3, 2); !ok || !sameLists(got.Next, lists("0 1 2 3 4 5; 0 1 2 3 4 5; 0 1 2 4 5 6; 0 1 2 3 4 5; 0 1 2 3 4 5; 0 1 2 3 4 5; 0 1 2 3 4 5")) {
		t.Error(got, ok)
	}
	if !slices.Equal(next, places(6)) {
		t.Error(next)
	}
}
