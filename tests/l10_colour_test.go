package tests

import (
	"math"
	"slices"
	"strings"
	"testing"

	"loop.example/g00373/impl"
)

// handLives tells what is needed when, by going from each use along every way back to where its value comes to be.
type handLives struct {
	s     impl.Ssa
	birth map[int]mark
	in    [][]bool   // by part and value
	out   [][]bool   // by part and value
	times [][][]bool // by part, place and 1, and value: the moments
}

func livesByHand(s impl.Ssa) *handLives {
	h := &handLives{s: s, birth: map[int]mark{}}
	for _, p := range s.Parts {
		h.in, h.out = append(h.in, make([]bool, s.Values)), append(h.out, make([]bool, s.Values))
		var times [][]bool
		for range len(p.Code) + 1 {
			times = append(times, make([]bool, s.Values))
		}
		h.times = append(h.times, times)
	}
	born, used := marksByHand(s)
	for _, b := range born {
		h.birth[b.value] = b
		h.times[b.part][b.place+1][b.value] = true
	}
	for _, u := range used {
		if u.place == len(s.Parts[u.part].Code) {
			h.out[u.part][u.value] = true
		}
		h.goBack(u)
	}
	return h
}

// goBack goes from a use on: right ahead of its place the value is needed.
func (h *handLives) goBack(u mark) {
	born, is := h.birth[u.value]
	for place := u.place - 1; place >= -1; place-- {
		h.times[u.part][place+1][u.value] = true
		if is && born.part == u.part && born.place == place {
			return
		}
	}
	if h.in[u.part][u.value] {
		return
	}
	h.in[u.part][u.value] = true
	for at, p := range h.s.Parts {
		if slices.Contains(p.Next, u.part) {
			h.out[at][u.value] = true
			h.goBack(mark{u.value, at, len(p.Code)})
		}
	}
}

// marked tells the places of what is true.
func marked(l []bool) []int {
	var out []int
	for i, is := range l {
		if is {
			out = append(out, i)
		}
	}
	return out
}

func allMarked(l [][]bool) [][]int {
	var out [][]int
	for _, row := range l {
		out = append(out, marked(row))
	}
	return out
}

// most tells the greatest moment.
func (h *handLives) most() int {
	out := 0
	for _, times := range h.times {
		for _, there := range times {
			out = max(out, countOf(there))
		}
	}
	return out
}

// clashes looks at each two of each moment.
func (h *handLives) clashes() web {
	w := emptyWeb(h.s.Values)
	for _, times := range h.times {
		for _, there := range times {
			values := marked(there)
			for _, a := range values {
				for _, b := range values {
					w[a][b] = w[a][b] || a != b
				}
			}
		}
	}
	return w
}

// inSome tells for each value whether it is in some moment.
func (h *handLives) inSome() []bool {
	out := make([]bool, h.s.Values)
	for _, times := range h.times {
		for _, there := range times {
			for _, value := range marked(there) {
				out[value] = true
			}
		}
	}
	return out
}

func (h *handLives) order() []int {
	some := h.inSome()
	out := marked(some[:12])
	g := graphByHand(blocksIn(h.s))
	for _, at := range orderByHand(g, 0, make([]bool, len(g.Next))) {
		out = append(out, h.s.Parts[at].Params...)
		for _, x := range h.s.Parts[at].Code {
			_, makes := usedByHand(x)
			out = append(out, makes...)
		}
	}
	return out
}

// coloursByHand tries colours from 0 on, for each value of an order.
func coloursByHand(w web, order []int) ([]int, int) {
	colours, many := slices.Repeat([]int{-1}, len(w)), 0
	for _, value := range order {
		for colour := 0; colours[value] < 0; colour++ {
			isFree := true
			for other, clash := range w[value] {
				isFree = isFree && !(clash && colours[other] == colour)
			}
			if isFree {
				colours[value] = colour
				many = max(many, colour+1)
			}
		}
	}
	return colours, many
}

func isColouringByHand(w web, some []bool, colours []int) bool {
	for a := range w {
		if some[a] && colours[a] < 0 {
			return false
		}
		for b := range w {
			if w[a][b] && colours[a] == colours[b] {
				return false
			}
		}
	}
	return true
}

// isOrderByHand tells whether an order has just those that are marked, each once.
func isOrderByHand(some []bool, order []int) bool {
	sorted := slices.Clone(order)
	slices.Sort(sorted)
	return slices.Equal(sorted, marked(some))
}

// isPerfectByHand looks at each three of an order.
func isPerfectByHand(w web, order []int) bool {
	for i, value := range order {
		for k, a := range order[:i] {
			for _, b := range order[:k] {
				if w[value][a] && w[value][b] && !w[a][b] {
					return false
				}
			}
		}
	}
	return true
}

// painted is a good ssa, and what is told of it.
type painted struct {
	s       impl.Ssa
	hand    *handLives
	clashes web
	some    []bool
	order   []int
	colours []int
	most    int
}

// checkLives holds LiveIn and LiveOut against what is worked out by hand; and what is needed ahead of a part comes to be in one that dominates it, or is there at first.
func checkLives(t *testing.T, h *handLives) {
	t.Helper()
	in, ok := impl.LiveIn(h.s)
	if !sameLists(in, allMarked(h.in)) || !ok {
		t.Fatalf("LiveIn(%v): %v %v, not %v", h.s, in, ok, allMarked(h.in))
	}
	if out, ok := impl.LiveOut(h.s); !sameLists(out, allMarked(h.out)) || !ok {
		t.Fatalf("LiveOut(%v): %v %v, not %v", h.s, out, ok, allMarked(h.out))
	}
	defs, _ := impl.DefsOf(h.s)
	shape, _ := impl.ShapeOf(h.s)
	dominators, _ := impl.DominatorsIn(shape)
	for at, values := range in {
		for _, value := range values {
			if value >= 12 && (defs[value] == at || !slices.Contains(dominators[at], defs[value])) {
				t.Fatalf("LiveIn(%v): %d ahead of %d", h.s, value, at)
			}
		}
	}
}

// checkClashes holds ClashesOf against what is worked out by hand; and clashes go both ways.
func checkClashes(t *testing.T, s impl.Ssa, w web) {
	t.Helper()
	got, ok := impl.ClashesOf(s)
	if !sameLists(got, allMarked(w)) || !ok {
		t.Fatalf("ClashesOf(%v): %v %v, not %v", s, got, ok, allMarked(w))
	}
	for value, others := range got {
		for _, other := range others {
			if !slices.Contains(got[other], value) || other == value {
				t.Fatalf("ClashesOf(%v): %d and %d", s, value, other)
			}
		}
	}
}

// checkColours is promise 10, of a good ssa; and it holds all that is told of it against what is worked out by hand.
func checkColours(t *testing.T, s impl.Ssa) painted {
	t.Helper()
	before := copySsa(s)
	h := livesByHand(s)
	x := painted{s: s, hand: h, clashes: h.clashes(), some: h.inSome(), order: h.order(), most: h.most()}
	checkLives(t, h)
	checkClashes(t, s, x.clashes)
	if most, ok := impl.MostLive(s); most != x.most || !ok {
		t.Fatalf("MostLive(%v): %d %v, not %d", s, most, ok, x.most)
	}
	if order, ok := impl.OrderOfLives(s); !slices.Equal(order, x.order) || !isOrderByHand(x.some, order) || !ok {
		t.Fatalf("OrderOfLives(%v): %v %v, not %v", s, order, ok, x.order)
	}
	want, wantMany := coloursByHand(x.clashes, x.order)
	colours, many, ok := impl.ColourSsa(s)
	if !slices.Equal(colours, want) || many != wantMany || many != x.most || !ok {
		t.Fatalf("ColourSsa(%v): %v %d %v, not %v %d, of %d at once", s, colours, many, ok, want, wantMany, x.most)
	}
	x.colours = colours
	if is, ok := impl.IsColouring(s, colours); !is || !ok {
		t.Fatalf("IsColouring(%v, %v): %v %v", s, colours, is, ok)
	}
	if is, ok := impl.IsPerfect(s, x.order); !is || !ok || !isPerfectByHand(x.clashes, x.order) {
		t.Fatalf("IsPerfect(%v, %v): %v %v", s, x.order, is, ok)
	}
	if !sameSsa(s, before) {
		t.Fatalf("%v was %v", s, before)
	}
	return x
}

// checkColouring holds IsColouring of any numbers at all against what is worked out by hand.
func (x painted) checkColouring(t *testing.T, colours []int) bool {
	t.Helper()
	before, copied := slices.Clone(colours), copySsa(x.s)
	wantOk := len(colours) == x.s.Values
	want := wantOk && isColouringByHand(x.clashes, x.some, colours)
	if is, ok := impl.IsColouring(x.s, colours); is != want || ok != wantOk {
		t.Fatalf("IsColouring(%v, %v): %v %v, not %v %v", x.s, colours, is, ok, want, wantOk)
	}
	if !slices.Equal(colours, before) || !sameSsa(x.s, copied) {
		t.Fatalf("%v was %v", colours, before)
	}
	return want
}

// checkPerfect holds IsPerfect of any order at all against what is worked out by hand.
func (x painted) checkPerfect(t *testing.T, order []int) bool {
	t.Helper()
	before, copied := slices.Clone(order), copySsa(x.s)
	wantOk := isOrderByHand(x.some, order)
	want := wantOk && isPerfectByHand(x.clashes, order)
	if is, ok := impl.IsPerfect(x.s, order); is != want || ok != wantOk {
		t.Fatalf("IsPerfect(%v, %v): %v %v, not %v %v", x.s, order, is, ok, want, wantOk)
	}
	if !slices.Equal(order, before) || !sameSsa(x.s, copied) {
		t.Fatalf("%v was %v", order, before)
	}
	return want
}

// byColours tells parts whose values are their colours.
func (x painted) byColours() []impl.Part {
	told := func(l []int) []int {
		var out []int
		for _, value := range l {
			out = append(out, x.colours[value])
		}
		return out
	}
	parts := copySsa(x.s).Parts
	for at := range parts {
		p := &parts[at]
		p.Params = told(p.Params)
		for i := range p.Code {
			uses, makes := usedByHand(p.Code[i])
			for k, colour := range told(uses) {
				*fieldsOf(&p.Code[i])[2+k] = colour
			}
			for _, colour := range told(makes) {
				p.Code[i].Dst = colour
			}
		}
		if p.Go == impl.GoIf || p.Go == impl.GoTable {
			p.Test = x.colours[p.Test]
		}
		for i := range p.Args {
			p.Args[i] = told(p.Args[i])
		}
	}
	return parts
}

// checkRunByColours looks whether the same is done where a word for each colour is all there is.
func (x painted) checkRunByColours(t *testing.T, state impl.State, fuel int) {
	t.Helper()
	r := &handSsa{handFlow: handFlow{s: copyOfState(state), names: map[int]int{}}, last: -1}
	words := append(slices.Clone(state.Locals), 0, 0, 0, 0)
	for value, word := range words {
		if x.some[value] {
			r.names[x.colours[value]] = word
		}
	}
	clear(r.s.Locals)
	r.how = r.follow(x.byColours(), fuel)
	got, how, begun, _ := impl.RunSsa(x.s, state, fuel)
	if !sameStates(r.s, got) || r.how != how || len(r.begun) != begun {
		t.Fatalf("%v, by the colours %v, from %v: %v %d, not %v %d", x.s, x.colours, state, r.s, r.how, got, how)
	}
}

// checkNoColours looks for the zero answer of every function, of an ssa that is not good.
func checkNoColours(t *testing.T, s impl.Ssa) {
	t.Helper()
	before := copySsa(s)
	for _, tell := range []func(impl.Ssa) ([][]int, bool){impl.LiveIn, impl.LiveOut, impl.ClashesOf} {
		if got, ok := tell(s); len(got) != 0 || ok {
			t.Errorf("%v: %v %v", s, got, ok)
		}
	}
	if got, ok := impl.MostLive(s); got != 0 || ok {
		t.Errorf("MostLive(%v): %d %v", s, got, ok)
	}
	if got, many, ok := impl.ColourSsa(s); len(got) != 0 || many != 0 || ok {
		t.Errorf("ColourSsa(%v): %v %d %v", s, got, many, ok)
	}
	if got, ok := impl.OrderOfLives(s); len(got) != 0 || ok {
		t.Errorf("OrderOfLives(%v): %v %v", s, got, ok)
	}
	for _, l := range [][]int{nil, {0}, {0, 1, 2}, {-1, 77}, places(12), places(min(max(s.Values, 0), 300))} {
		copied := slices.Clone(l)
		if is, ok := impl.IsColouring(s, l); is || ok {
			t.Errorf("IsColouring(%v, %v): %v %v", s, l, is, ok)
		}
		if is, ok := impl.IsPerfect(s, l); is || ok {
			t.Errorf("IsPerfect(%v, %v): %v %v", s, l, is, ok)
		}
		if !slices.Equal(l, copied) {
			t.Errorf("%v was %v", l, copied)
		}
	}
	if !sameSsa(s, before) {
		t.Errorf("%v was %v", s, before)
	}
}

// lifeCase is an ssa and all that is told of it: LiveIn and LiveOut, how many are there at once, which clash (two, a stroke between), the order, and its colours.
type lifeCase struct {
	values  int
	text    string
	in      string
	out     string
	most    int
	clashes string
	order   string
	colours string
}

// clashesTold tells for each value those with which it clashes.
func clashesTold(values int, text string) [][]int {
	w := emptyWeb(values)
	for _, word := range strings.Fields(text) {
		two := numbersOf(strings.Split(word, "-"))
		w[two[0]][two[1]], w[two[1]][two[0]] = true, true
	}
	return allMarked(w)
}

func checkLifeCases(t *testing.T, cases []lifeCase) {
	t.Helper()
	for _, c := range cases {
		s := ssa(c.values, c.text)
		if !impl.GoodSsa(s) {
			t.Fatalf("%s is not good", c.text)
		}
		if got, ok := impl.LiveIn(s); !sameLists(got, lists(c.in)) || !ok {
			t.Errorf("LiveIn(%s): %v %v, not %s", c.text, got, ok, c.in)
		}
		if got, ok := impl.LiveOut(s); !sameLists(got, lists(c.out)) || !ok {
			t.Errorf("LiveOut(%s): %v %v, not %s", c.text, got, ok, c.out)
		}
		if got, ok := impl.MostLive(s); got != c.most || !ok {
			t.Errorf("MostLive(%s): %d %v, not %d", c.text, got, ok, c.most)
		}
		if got, ok := impl.ClashesOf(s); !sameLists(got, clashesTold(c.values, c.clashes)) || !ok {
			t.Errorf("ClashesOf(%s): %v %v, not %s", c.text, got, ok, c.clashes)
		}
		order := numbersOf(strings.Fields(c.order))
		if got, ok := impl.OrderOfLives(s); !slices.Equal(got, order) || !ok {
			t.Errorf("OrderOfLives(%s): %v %v, not %v", c.text, got, ok, order)
		}
		want := slices.Repeat([]int{-1}, c.values)
		for i, colour := range numbersOf(strings.Fields(c.colours)) {
			want[order[i]] = colour
		}
		if got, many, ok := impl.ColourSsa(s); !slices.Equal(got, want) || many != c.most || !ok {
			t.Errorf("ColourSsa(%s): %v %d %v, not %v", c.text, got, many, ok, want)
		}
		x := checkColours(t, s)
		for fuel := range 8 {
			x.checkRunByColours(t, risingState(), fuel)
		}
	}
}

// Promise 10: one part: what is needed ahead of its steps and behind them; the moments behind each step, also of one without a Dst, and of one whose Dst nobody uses.
func TestColourOnePart(t *testing.T) {
	checkLifeCases(t, []lifeCase{
		// nothing is needed; values that never come to be are in no moment
		{12, "trap", "", "", 0, "", "", ""},
		{20, "trap", "", "", 0, "", "", ""},
		{250, "trap", "", "", 0, "", "", ""},
		// Args of an end; those there at first that nobody uses are in no moment
		{12, "end 0 1 2", "0 1 2", "0 1 2", 3, "0-1 0-2 1-2", "0 1 2", "0 1 2"},
		{12, "end 2 1 0", "0 1 2", "0 1 2", 3, "0-1 0-2 1-2", "0 1 2", "0 1 2"},
		{14, "end 11 3 3", "3 11", "3 11", 2, "3-11", "3 11", "0 1"},
		{12, "end 7 7 7", "7", "7", 1, "", "7", "0"},
		// a Dst that nobody uses is there just behind its step
		{13, "const 12 5, trap", "", "", 1, "", "12", "0"},
		{14, "const 13 5, trap", "", "", 1, "", "13", "0"},
		{14, "const 12 5, const 13 6, trap", "", "", 1, "", "12 13", "0 0"},
		{13, "const 12 1, end 3 3 3", "3", "3", 2, "3-12", "3 12", "0 1"},
		{14, "const 12 1, const 13 1, end 3 3 3", "3", "3", 2, "3-12 3-13", "3 12 13", "0 1 1"},
		{14, "const 12 1, out 4, const 13 1, trap", "4", "", 2, "4-12", "4 12 13", "0 1 0"},
		{13, "load 12 3, out 3, trap", "3", "", 2, "3-12", "3 12", "0 1"},
		{13, "load 12 3, trap", "3", "", 1, "", "3 12", "0 0"},
		{13, "add 12 3 4, trap", "3 4", "", 2, "3-4", "3 4 12", "0 1 0"},
		// one that comes to be later is not there yet
		{14, "const 12 1, const 13 2, end 12 13 12", "", "12 13", 2, "12-13", "12 13", "0 1"},
		{14, "const 12 1, out 12, const 13 2, out 13, trap", "", "", 1, "", "12 13", "0 0"},
		{15, "const 12 1, out 12, const 13 2, const 14 3, end 14 13 14", "", "13 14", 2, "13-14", "12 13 14", "0 0 1"},
		{14, "out 3, const 12 1, out 4, const 13 2, out 12, end 13 13 13", "3 4", "13", 2, "3-4 4-12 12-13", "3 4 12 13", "0 1 0 1"},
		// what is used last by a step makes room for its Dst; what is needed still does not
		{13, "add 12 0 1, end 12 12 12", "0 1", "12", 2, "0-1", "0 1 12", "0 1 0"},
		{13, "add 12 0 1, end 12 0 0", "0 1", "0 12", 2, "0-1 0-12", "0 1 12", "0 1 1"},
		{13, "add 12 0 1, end 12 1 1", "0 1", "1 12", 2, "0-1 1-12", "0 1 12", "0 1 0"},
		{13, "add 12 0 1, end 12 1 0", "0 1", "0 1 12", 3, "0-1 0-12 1-12", "0 1 12", "0 1 2"},
		{13, "mul 12 3 3, out 12, trap", "3", "", 1, "", "3 12", "0 0"},
		{13, "copy 12 3, end 12 12 12", "3", "12", 1, "", "3 12", "0 0"},
		{13, "copy 12 3, end 12 3 3", "3", "3 12", 2, "3-12", "3 12", "0 1"},
		// steps without a Dst
		{12, "out 3, trap", "3", "", 1, "", "3", "0"},
		{12, "out 3, end 4 4 4", "3 4", "4", 2, "3-4", "3 4", "0 1"},
		{12, "out 3, out 4, trap", "3 4", "", 2, "3-4", "3 4", "0 1"},
		{12, "out 3, out 3, trap", "3", "", 1, "", "3", "0"},
		{12, "store 3 4, trap", "3 4", "", 2, "3-4", "3 4", "0 1"},
		{12, "store 4 3, out 9, trap", "3 4 9", "", 3, "3-4 3-9 4-9", "3 4 9", "0 1 2"},
		// Do, Dst and N of steps, and the Test of one without, are no uses
		{14, "const 12 7, sub 13 12 12, trap", "", "", 1, "", "12 13", "0 0"},
		// as the given test has it, in one part
		{13, "add 12 0 1, out 12, out 0, trap", "0 1", "", 2, "0-1 0-12", "0 1 12", "0 1 1"},
		// the least colour that is free lies between two, or below
		{16, "const 12 1, const 13 2, const 14 3, out 13, const 15 4, store 12 14, out 15, trap", "", "", 3, "12-13 12-14 13-14 12-15 14-15", "12 13 14 15", "0 1 2 1"},
		{16, "const 15 1, const 14 2, const 13 3, out 15, const 12 4, store 14 13, out 12, trap", "", "", 3, "15-14 15-13 14-13 12-14 12-13", "15 14 13 12", "0 1 2 0"},
	})
}

// Promise 10: Params, which are not needed ahead of their own part, and are there as it begins, used or not; Test; Args of one way, of two and of many.
func TestColourParams(t *testing.T) {
	checkLifeCases(t, []lifeCase{
		{12, "to 1; trap", ";", ";", 0, "", "", ""},
		{13, "to 1(3); with 12, trap", "3;", "3;", 1, "", "3 12", "0 0"},
		{13, "to 1(3); with 12, out 12, trap", "3;", "3;", 1, "", "3 12", "0 0"},
		{13, "to 1(3); with 12, end 12 12 12", "3;", "3; 12", 1, "", "3 12", "0 0"},
		{13, "to 1(3); with 12, end 12 3 3", "3; 3", "3; 3 12", 2, "3-12", "3 12", "0 1"},
		{13, "to 1(3); with 12, end 3 3 3", "3; 3", "3; 3", 2, "3-12", "3 12", "0 1"},
		{14, "to 1(3 3); with 12 13, trap", "3;", "3;", 2, "12-13", "3 12 13", "0 0 1"},
		{14, "to 1(3 4); with 13 12, trap", "3 4;", "3 4;", 2, "3-4 12-13", "3 4 13 12", "0 1 0 1"},
		{15, "to 1(3 3 3); with 14 12 13, out 12, trap", "3;", "3;", 3, "12-13 12-14 13-14", "3 14 12 13", "0 0 1 2"},
		{14, "to 1(3); with 12, const 13 1, trap", "3;", "3;", 1, "", "3 12 13", "0 0 0"},
		{14, "to 1(3); with 12, const 13 1, out 12, trap", "3;", "3;", 2, "12-13", "3 12 13", "0 0 1"},
		{13, "const 12 1, to 1; out 12, trap", "; 12", "12;", 1, "", "12", "0"},
		{14, "const 12 1, to 1(12); with 13, out 12, out 13, trap", "; 12", "12;", 2, "12-13", "12 13", "0 1"},
		// Test
		{12, "if 5 1 1; trap", "5;", "5;", 1, "", "5", "0"},
		{12, "if 0 1 1; trap", "0;", "0;", 1, "", "0", "0"},
		{12, "table 11 1 1; trap", "11;", "11;", 1, "", "11", "0"},
		{13, "const 12 1, if 12 1 1; out 12, trap", "; 12", "12;", 1, "", "12", "0"},
		{13, "const 12 1, table 12 1 1; out 3, trap", "3; 3", "3 12;", 2, "3-12", "3 12", "0 1"},
		{12, "out 3, to 1; out 0, trap", "0 3; 0", "0;", 2, "0-3", "0 3", "0 1"},
		// Args of two ways, to one part, and to two
		{13, "if 0 1(3) 1(4); with 12, end 12 12 12", "0 3 4;", "0 3 4; 12", 3, "0-3 0-4 3-4", "0 3 4 12", "0 1 2 0"},
		{14, "if 0 1(3) 2(4); with 12, trap; with 13, trap", "0 3 4;;", "0 3 4;;", 3, "0-3 0-4 3-4", "0 3 4 13 12", "0 1 2 0 0"},
		{13, "if 0 1(3) 2; with 12, trap; trap", "0 3;;", "0 3;;", 2, "0-3", "0 3 12", "0 1 0"},
		{13, "if 0 2 1(3); with 12, trap; trap", "0 3;;", "0 3;;", 2, "0-3", "0 3 12", "0 1 0"},
		{13, "table 9 1(3) 1(4) 1(5) 1(3); with 12, end 12 12 6", "3 4 5 6 9; 6", "3 4 5 6 9; 6 12", 5, "3-4 3-5 3-6 3-9 4-5 4-6 4-9 5-6 5-9 6-9 6-12", "3 4 5 6 9 12", "0 1 2 3 4 0"},
		// what is handed is needed no more where it was handed
		{16, "const 12 1, const 13 2, if 0 1(12 13) 1(13 12); with 14 15, store 14 15, trap", "0;", "0 12 13;", 3, "0-12 0-13 12-13 14-15", "0 12 13 14 15", "0 1 2 0 1"},
	})
}

// Promise 10: loops: a value that is needed round a loop and not behind it, one that is needed behind it alone, one that goes through, one that is handed round; rings of several parts, with one way in and with two.
func TestColourLoops(t *testing.T) {
	checkLifeCases(t, []lifeCase{
		// 1 is needed round the loop, 0 behind it
		{14, "to 1(3); with 12, sub 13 12 1, if 13 1(13) 2; end 0 0 0", "0 1 3; 0 1; 0", "0 1 3; 0 1 13; 0", 3, "0-1 0-3 1-3 0-12 1-12 0-13 1-13", "0 1 3 12 13", "0 1 2 2 2"},
		// made in the loop, and needed behind it alone
		{13, "to 1; const 12 5, if 0 1 2; end 12 12 12", "0; 0; 12", "0; 0 12; 12", 2, "0-12", "0 12", "0 1"},
		// needed but in the loop
		{13, "to 1; out 3, to 1", "3; 3", "3; 3", 1, "", "3", "0"},
		{12, "to 1; to 1", ";", ";", 0, "", "", ""},
		{13, "const 12 1, to 1; out 12, if 12 1 2; trap", "; 12;", "12; 12;", 1, "", "12", "0"},
		// used ahead of a step, all the same it is needed behind it: the way leads back
		{14, "const 12 1, to 1; out 12, const 13 2, out 13, to 1", "; 12", "12; 12", 2, "12-13", "12 13", "0 1"},
		// Params that are handed round: themselves, or in turn
		{13, "to 1(3); with 12, to 1(12)", "3;", "3; 12", 1, "", "3 12", "0 0"},
		{14, "to 1(3 4); with 12 13, to 1(13 12)", "3 4;", "3 4; 12 13", 2, "3-4 12-13", "3 4 12 13", "0 1 0 1"},
		{14, "to 1(3 4); with 12 13, to 1(12 12)", "3 4;", "3 4; 12", 2, "3-4 12-13", "3 4 12 13", "0 1 0 1"},
		// a ring of three parts: what one needs is needed in all
		{12, "to 1; out 3, to 2; out 4, to 3; out 5, if 0 1 4; out 6, trap", "0 3 4 5 6; 0 3 4 5 6; 0 3 4 5 6; 0 3 4 5 6; 6", "0 3 4 5 6; 0 3 4 5 6; 0 3 4 5 6; 0 3 4 5 6;", 5, "0-3 0-4 0-5 0-6 3-4 3-5 3-6 4-5 4-6 5-6", "0 3 4 5 6", "0 1 2 3 4"},
		// numbered against the ways
		{12, "to 3; out 5, if 0 3 4; out 4, to 1; out 3, to 2; out 6, trap", "0 3 4 5 6; 0 3 4 5 6; 0 3 4 5 6; 0 3 4 5 6; 6", "0 3 4 5 6; 0 3 4 5 6; 0 3 4 5 6; 0 3 4 5 6;", 5, "0-3 0-4 0-5 0-6 3-4 3-5 3-6 4-5 4-6 5-6", "0 3 4 5 6", "0 1 2 3 4"},
		// made in a ring, and used in it: it is not needed ahead of where it is made
		{14, "to 1; const 12 1, to 2; out 12, if 0 1 3; out 12, trap", "0; 0; 0 12; 12", "0; 0 12; 0 12;", 2, "0-12", "0 12", "0 1"},
		// two ways into a ring
		{12, "if 0 1 2; out 5, to 2; out 6, to 1", "0 5 6; 5 6; 5 6", "0 5 6; 5 6; 5 6", 3, "0-5 0-6 5-6", "0 5 6", "0 1 2"},
		{14, "const 12 1, const 13 2, if 0 1 2; out 12, to 2; out 13, to 1", "0; 12 13; 12 13", "0 12 13; 12 13; 12 13", 3, "0-12 0-13 12-13", "0 12 13", "0 1 2"},
		// a loop in a loop
		{15, "to 1; const 12 1, to 2(3); with 13, sub 14 13 12, if 14 2(14) 3; if 4 1 4; end 5 5 5", "3 4 5; 3 4 5; 3 4 5 12; 3 4 5; 5", "3 4 5; 3 4 5 12; 3 4 5 12 14; 3 4 5; 5", 5, "3-4 3-5 4-5 3-12 4-12 5-12 3-13 4-13 5-13 12-13 3-14 4-14 5-14 12-14", "3 4 5 12 13 14", "0 1 2 3 4 4"},
	})
}

// Promise 10: the order is that of the parts' shape, whatever their numbers: who dominates comes first; Params and steps as they stand, whatever the numbers of their values.
func TestColourOrder(t *testing.T) {
	checkLifeCases(t, []lifeCase{
		{15, "to 2(3); with 12, end 12 13 13; with 13, copy 14 13, to 1(14)", "3; 13;", "3; 12 13; 13 14", 2, "13-14 12-13", "3 13 14 12", "0 0 1 1"},
		// of two ways the second one's part comes first, then the first one's, then where both lead
		{14, "if 0 1 2; const 12 1, to 3; const 13 1, to 3; trap", "0;;;", "0;;;", 1, "", "0 13 12", "0 0 0"},
		{15, "if 0 2 1; const 12 1, to 3; const 13 1, to 3; const 14 1, trap", "0;;;", "0;;;", 1, "", "0 13 12 14", "0 0 0 0"},
		{15, "table 0 3 1 2 1; const 12 1, trap; const 13 1, trap; const 14 1, to 2", "0;;;", "0;;;", 1, "", "0 14 13 12", "0 0 0 0"},
		{18, "const 17 1, const 15 2, to 1(17 15 17); with 14 12 16, copy 13 12, end 13 14 16", "; ", "15 17; 13 14 16", 3, "15-17 14-12 14-16 12-16 13-14 13-16", "17 15 14 12 16 13", "0 1 0 1 2 1"},
		// those there at first come first, rising, wherever they are used
		{13, "const 12 1, to 1; to 2; end 9 2 12", "2 9; 2 9 12; 2 9 12", "2 9 12; 2 9 12; 2 9 12", 3, "2-9 2-12 9-12", "2 9 12", "0 1 2"},
		{12, "to 1; out 11, to 2; out 0, end 4 7 4", "0 4 7 11; 0 4 7 11; 0 4 7", "0 4 7 11; 0 4 7; 4 7", 4, "0-4 0-7 0-11 4-7 4-11 7-11", "0 4 7 11", "0 1 2 3"},
	})
}

// Promise 10: what the given test has: of a flow, without needless Params.
func TestColourOfFlow(t *testing.T) {
	s, _ := impl.MakeSsa(flow("add 2 0 1, out 2, out 0, trap"))
	s, _, _ = impl.TrimParams(s)
	x := checkColours(t, s)
	if x.most != 2 || !slices.Equal(x.order, []int{0, 1, 24}) || x.colours[0] != 0 || x.colours[1] != 1 || x.colours[24] != 1 {
		t.Error(x.most, x.order, x.colours)
	}
}

// Promises 10 and 19: numbers that are a colouring, and some that are not; lists of other lengths than Values.
func TestColourIsColouring(t *testing.T) {
	// 0 clashes with 1 and 12, 13 is in no moment
	x := checkColours(t, ssa(14, "add 12 0 1, end 12 0 0"))
	with := func(a int, b int, c int, rest int) []int {
		out := slices.Repeat([]int{rest}, 14)
		out[0], out[1], out[12] = a, b, c
		return out
	}
	for _, c := range []struct {
		colours []int
		want    bool
	}{
		{with(0, 1, 1, -1), true},
		{with(0, 1, 1, 0), true},
		{with(0, 1, 2, 0), true},
		{with(1, 0, 0, 1), true},
		{with(5, 7, 9, math.MinInt), true},
		{with(5, 7, 9, math.MaxInt), true},
		{with(math.MaxInt, 0, math.MaxInt-1, math.MaxInt), true},
		{with(1<<32, 0, 0, 0), true},
		{with(0, 0, 1, -1), false},
		{with(0, 1, 0, -1), false},
		{with(0, 0, 0, -1), false},
		{with(3, 3, 4, 2), false},
		{with(math.MaxInt, math.MaxInt, 0, 0), false},
		{with(-1, 0, 0, -1), false},
		{with(0, -1, 1, -1), false},
		{with(0, 1, -1, -1), false},
		{with(0, 1, math.MinInt, -1), false},
		{with(-1, -2, -3, 0), false},
	} {
		if got := x.checkColouring(t, c.colours); got != c.want {
			t.Errorf("IsColouring(%v): %v", c.colours, got)
		}
	}
	// many more colours than are needed
	rising := places(14)
	if !x.checkColouring(t, rising) {
		t.Error(rising)
	}
	for long := range 30 {
		x.checkColouring(t, slices.Repeat(places(10), 3)[:long])
	}
	for _, wrong := range [][]int{nil, {}, places(13), places(15), places(250), make([]int, 100000)} {
		if is, ok := impl.IsColouring(x.s, wrong); is || ok {
			t.Errorf("IsColouring of %d numbers: %v %v", len(wrong), is, ok)
		}
	}
	// no value is in a moment: any numbers do
	none := checkColours(t, ssa(12, "trap"))
	for _, n := range []int{math.MinInt, -1, 0, math.MaxInt} {
		if !none.checkColouring(t, slices.Repeat([]int{n}, 12)) || none.checkColouring(t, slices.Repeat([]int{n}, 11)) {
			t.Error(n)
		}
	}
}

// Promises 10 and 19: orders that are perfect, and some that are not; orders with one value twice, with one missing, with one that is in no moment, with numbers that are no values.
func TestColourIsPerfect(t *testing.T) {
	// 0 clashes with 1 and 12, 13 and all others are in no moment
	x := checkColours(t, ssa(14, "add 12 0 1, end 12 0 0"))
	for _, c := range []struct {
		order string
		want  bool
		ok    bool
	}{
		{"0 1 12", true, true},
		{"0 12 1", true, true},
		{"1 0 12", true, true},
		{"12 0 1", true, true},
		{"1 12 0", false, true},
		{"12 1 0", false, true},
		{"", false, false},
		{"0", false, false},
		{"0 1", false, false},
		{"0 12", false, false},
		{"1 12", false, false},
		{"0 1 1", false, false},
		{"0 0 12", false, false},
		{"12 12 12", false, false},
		{"0 1 12 12", false, false},
		{"0 1 12 0", false, false},
		{"0 1 12 13", false, false},
		{"0 1 13", false, false},
		{"13 1 12", false, false},
		{"0 1 2", false, false},
		{"2 0 1 12", false, false},
		{"-1 1 12", false, false},
		{"0 1 -1", false, false},
		{"0 1 12 -1", false, false},
		{"0 1 14", false, false},
		{"0 1 12 14", false, false},
		{"14 1 12", false, false},
		{"0 1 9223372036854775807", false, false},
		{"0 1 -9223372036854775808", false, false},
		{"0 1 4294967308", false, false},
	} {
		order := numbersOf(strings.Fields(c.order))
		if is, ok := impl.IsPerfect(x.s, order); is != c.want || ok != c.ok {
			t.Errorf("IsPerfect(%s): %v %v", c.order, is, ok)
		}
		x.checkPerfect(t, order)
	}
	for _, long := range []int{14, 250, 100000} {
		x.checkPerfect(t, make([]int, long))
		x.checkPerfect(t, places(long))
	}
	// no value is in a moment: the order without values is perfect
	none := checkColours(t, ssa(12, "trap"))
	if !none.checkPerfect(t, nil) || !none.checkPerfect(t, []int{}) || none.checkPerfect(t, []int{0}) {
		t.Error("trap")
	}
	// a row in which each clashes with the next one alone: inner ones may not come last
	row := checkColours(t, ssa(17, "const 12 1, const 13 2, out 12, const 14 3, out 13, const 15 4, out 14, const 16 5, store 15 16, trap"))
	for _, c := range []struct {
		order string
		want  bool
	}{
		{"12 13 14 15 16", true}, {"16 15 14 13 12", true}, {"14 13 15 12 16", true}, {"14 15 16 13 12", true},
		{"12 14 13 15 16", false}, {"12 13 14 16 15", false}, {"12 13 15 14 16", false}, {"16 12 14 13 15", false},
	} {
		if got := row.checkPerfect(t, numbersOf(strings.Fields(c.order))); got != c.want {
			t.Errorf("IsPerfect(%s): %v", c.order, got)
		}
	}
}

// allOrders goes through all orders of a list.
func allOrders(l []int, look func([]int)) {
	var goOn func(at int)
	goOn = func(at int) {
		if at == len(l) {
			look(l)
			return
		}
		for i := at; i < len(l); i++ {
			l[at], l[i] = l[i], l[at]
			goOn(at + 1)
			l[at], l[i] = l[i], l[at]
		}
	}
	goOn(0)
}

// allColours goes through all ways to give some values so many colours, all others being -1.
func allColours(values int, some []int, many int, look func([]int)) {
	colours := slices.Repeat([]int{-1}, values)
	var goOn func(at int)
	goOn = func(at int) {
		if at == len(some) {
			look(colours)
			return
		}
		for colour := range many {
			colours[some[at]] = colour
			goOn(at + 1)
		}
	}
	goOn(0)
}

// Promise 10: of grown ssas with few values in moments all orders, and all ways to give colours: fewer do not do.
func TestColourAllFew(t *testing.T) {
	pick := someSource()
	few, perfect, not, right := 0, 0, 0, 0
	for few < 150 {
		s := grownSsa(pick)
		if many := countOf(livesByHand(s).inSome()); many < 2 || many > 5 {
			continue
		}
		few++
		x := checkColours(t, s)
		allOrders(slices.Clone(x.order), func(order []int) {
			if x.checkPerfect(t, order) {
				perfect++
			} else {
				not++
			}
		})
		allColours(s.Values, x.order, x.most-1, func(colours []int) {
			if x.checkColouring(t, colours) {
				t.Fatalf("%v: %v do, not %d", s, colours, x.most)
			}
		})
		allColours(s.Values, x.order, x.most, func(colours []int) {
			if x.checkColouring(t, colours) {
				right++
			}
		})
	}
	if perfect < 500 || not < 500 || right < 500 {
		t.Errorf("so few of: %d perfect, %d not, %d right", perfect, not, right)
	}
}

// Promise 10: in every shape of up to three parts, and in many of four, each part makes a value, and each uses what each other one that dominates it makes, and a value there at first.
func TestColourAllSmall(t *testing.T) {
	shapes := 0
	for many := 1; many <= 4; many++ {
		allGraphs(many, func(g impl.Graph) {
			w := webOf(g)
			if slices.ContainsFunc(w, func(row []bool) bool { return row[0] }) || slices.Contains(w.comeTo(-1), false) {
				return
			}
			shapes++
			if many == 4 && shapes%9 != 0 {
				return
			}
			s := impl.Ssa{Values: 12 + many}
			for at, next := range g.Next {
				s.Parts = append(s.Parts, partWith(12+at, next))
			}
			for at, others := range dominatorsByHand(g) {
				for _, other := range append(others, -at-5) {
					user := copySsa(s)
					value := 12 + other
					x := impl.Flat{Op: impl.FxOut, A: value}
					user.Parts[at].Code = append(user.Parts[at].Code, x)
					checkColours(t, user)
					if other != at {
						user.Parts[at].Code = slices.Insert(user.Parts[at].Code, 0, x)
						checkColours(t, user)
					}
				}
			}
		})
	}
	if shapes < 1000 {
		t.Error("so few of: ", shapes)
	}
}

// tallyColours counts what grown ones have.
type tallyColours struct {
	sizes    [4]int // by MostLive: 0 to 2, 3 to 5, 6 to 11, more
	idle     int    // values in no moment
	ahead    int    // values that are needed ahead of a part, and come to be in another one
	unlike   int    // two that do not clash and have unlike colours
	perfect  int
	not      int
	right    int
	wrong    int
	ownOrder int // ssas whose order is not rising
}

func (c *tallyColours) count(x painted) {
	c.sizes[min(x.most/3, 3)]++
	c.idle += len(x.some) - countOf(x.some)
	for _, in := range x.hand.in {
		c.ahead += countOf(in[12:])
	}
	for a, some := range x.some {
		for b := range a {
			if some && x.some[b] && !x.clashes[a][b] && x.colours[a] != x.colours[b] {
				c.unlike++
			}
		}
	}
	if !slices.IsSorted(x.order) {
		c.ownOrder++
	}
}

// look asks for other colours and other orders than those that are told.
func (c *tallyColours) look(t *testing.T, x painted, pick func(int) int) {
	t.Helper()
	colours := slices.Clone(x.colours)
	for range 1 + pick(3) {
		colours[pick(len(colours))] = pick(x.most+4) - 1
	}
	if x.checkColouring(t, colours) {
		c.right++
	} else {
		c.wrong++
	}
	order := slices.Clone(x.order)
	for range pick(4) {
		if len(order) > 0 {
			a, b := pick(len(order)), pick(len(order))
			order[a], order[b] = order[b], order[a]
		}
	}
	if x.checkPerfect(t, order) {
		c.perfect++
	} else {
		c.not++
	}
	if len(order) > 0 {
		order[pick(len(order))] = pick(len(x.some)+2) - 1
		x.checkPerfect(t, order)
		x.checkPerfect(t, append(order, pick(len(x.some))))
		x.checkPerfect(t, order[1:])
	}
}

func (c *tallyColours) check(t *testing.T, sizes int, least int) {
	t.Helper()
	if slices.Min(c.sizes[sizes:]) < least || min(c.idle, c.ahead, c.unlike, c.perfect, c.not, c.right, c.wrong, c.ownOrder) < least {
		t.Errorf("so few of: %+v", *c)
	}
}

// Promise 10: ssas of grown flows, as they are made and without needless Params.
func TestColourMixedFlows(t *testing.T) {
	pick := someSource()
	var c tallyColours
	for range 500 {
		f, state := grownFlow(pick), grownState(pick)
		made, ok := impl.MakeSsa(f)
		if !ok {
			continue
		}
		trimmed, _, _ := impl.TrimParams(made)
		for _, s := range []impl.Ssa{made, trimmed} {
			x := checkColours(t, s)
			x.checkRunByColours(t, state, 50)
			c.count(x)
			c.look(t, x, pick)
		}
	}
	c.check(t, 0, 20)
}

// Promise 10: ssas of flows of code, joined and as they are, trimmed and not trimmed.
func TestColourOfCode(t *testing.T) {
	pick := someSource()
	var c tallyColours
	for range 500 {
		lifted, ok := impl.LiftSteps(grownCode(pick))
		if !ok {
			continue
		}
		joined, _ := impl.JoinFlow(lifted)
		state := grownState(pick)
		for _, f := range [][]impl.Block{lifted, joined} {
			made, ok := impl.MakeSsa(f)
			if !ok {
				continue
			}
			trimmed, _, _ := impl.TrimParams(made)
			for _, s := range []impl.Ssa{made, trimmed} {
				x := checkColours(t, s)
				x.checkRunByColours(t, state, 100)
				c.count(x)
				c.look(t, x, pick)
			}
		}
	}
	c.check(t, 1, 20)
}

// Promise 10: code told by its words; a word for each colour is all that a run needs.
func TestColourOfWords(t *testing.T) {
	for _, c := range []struct {
		text string
		most int
	}{
		{"", 3},
		{"get 3, out", 4},
		{"get 0, get 1, set 0, set 1, get 0, out, get 1, out", 4},
		{"get 0, if, const 5, set 1, else, const 6, set 2, end, get 1, get 2, add, out", 5},
		{"loop, get 0, out, get 0, const 1, sub, set 0, get 0, brif 0, end, get 1, out", 5},
		{"get 3, get 4, get 5, get 6, add, add, add, out", 7},
	} {
		f, _ := impl.LiftSteps(code(c.text))
		f, _ = impl.JoinFlow(f)
		made, ok := impl.MakeSsa(f)
		if !ok {
			t.Fatal(c.text)
		}
		trimmed, _, _ := impl.TrimParams(made)
		checkColours(t, made)
		x := checkColours(t, trimmed)
		if x.most != c.most {
			t.Errorf("MostLive of %s: %d, not %d", c.text, x.most, c.most)
		}
		for a := range 5 {
			x.checkRunByColours(t, stateOf(a, 2), 400)
		}
	}
}

// Promise 10: grown ssas whose parts have any Params.
func TestColourMixed(t *testing.T) {
	pick := someSource()
	var c tallyColours
	for range 3000 {
		s, state := grownSsa(pick), grownState(pick)
		x := checkColours(t, s)
		x.checkRunByColours(t, state, 5+pick(60))
		c.count(x)
		c.look(t, x, pick)
	}
	c.check(t, 0, 20)
}

// crowded is an ssa of MaxParts parts, all of whose values are there at once behind the fourth one.
func crowded() impl.Ssa {
	s := rowOfParts(11)
	s.Values = 250
	for i := range 238 {
		s.Parts[i/60].Code = append(s.Parts[i/60].Code, impl.Flat{Op: impl.FxConst, Dst: 249 - i, N: i})
	}
	for value := range 250 {
		at := 4 + value/60
		s.Parts[at].Code = append(s.Parts[at].Code, impl.Flat{Op: impl.FxOut, A: value})
	}
	return s
}

// Promise 10: as many values at once as there can be; as many steps; as many Params.
func TestColourMost(t *testing.T) {
	s := crowded()
	x := checkColours(t, s)
	if x.most != 250 || len(x.order) != 250 || x.order[12] != 249 || x.order[249] != 12 || x.colours[249] != 12 || x.colours[12] != 249 {
		t.Error(x.most, x.order, x.colours)
	}
	backward := slices.Clone(x.order)
	slices.Reverse(backward)
	if !x.checkPerfect(t, backward) || !x.checkPerfect(t, places(250)) || x.checkPerfect(t, append(backward, 0)) {
		t.Error("all clash: each order is perfect")
	}
	x.checkColouring(t, places(250))
	// round a loop all of them are needed in all parts of it
	s.Parts[10] = impl.Part{Go: impl.GoTo, Next: []int{4}, Args: [][]int{nil}}
	x = checkColours(t, s)
	if in, _ := impl.LiveIn(s); x.most != 250 || len(in[10]) != 250 || len(in[4]) != 250 || len(in[3]) != 192 {
		t.Error(x.most, in)
	}
	all := places(250)[12:]
	s = impl.Ssa{Values: 250, Parts: []impl.Part{part("to 1"), {Params: all, Go: impl.GoTo, Next: []int{1}, Args: [][]int{slices.Clone(all)}}}}
	s.Parts[0].Args[0] = make([]int, len(all))
	if x = checkColours(t, s); x.most != 238 || x.colours[0] != 0 || x.colours[12] != 0 || x.colours[249] != 237 {
		t.Error(x.most, x.colours)
	}
	for many := 1; many <= 11; many++ {
		if x = checkColours(t, rowOfParts(many)); x.most != 3 || !slices.Equal(x.order, places(3)) {
			t.Error(many, x.most, x.order)
		}
	}
}

// Promises 10 and 19: the same answer on many runs, however a map is gone through.
func TestColourSameEachTime(t *testing.T) {
	pick := someSource()
	for _, s := range []impl.Ssa{crowded(), fullSsa(), grownSsa(pick), grownSsa(pick), grownSsa(pick)} {
		colours, many, _ := impl.ColourSsa(s)
		clashes, _ := impl.ClashesOf(s)
		order, _ := impl.OrderOfLives(s)
		spoilt := slices.Clone(order)
		slices.Reverse(spoilt[len(spoilt)/2:])
		perfect, _ := impl.IsPerfect(s, spoilt)
		for range 20 {
			if got, n, ok := impl.ColourSsa(s); !slices.Equal(got, colours) || n != many || !ok {
				t.Fatalf("ColourSsa(%v): %v %d, not %v %d", s, got, n, colours, many)
			}
			if got, ok := impl.ClashesOf(s); !sameLists(got, clashes) || !ok {
				t.Fatalf("ClashesOf(%v): %v, not %v", s, got, clashes)
			}
			if got, ok := impl.OrderOfLives(s); !slices.Equal(got, order) || !ok {
				t.Fatalf("OrderOfLives(%v): %v, not %v", s, got, order)
			}
			if is, ok := impl.IsPerfect(s, spoilt); is != perfect || !ok {
				t.Fatalf("IsPerfect(%v, %v): %v %v", s, spoilt, is, ok)
			}
			if is, ok := impl.IsColouring(s, colours); !is || !ok {
				t.Fatalf("IsColouring(%v, %v): %v %v", s, colours, is, ok)
			}
		}
	}
}

// Promise 19: ssas that are not good.
func TestColourNotGood(t *testing.T) {
	for _, s := range []impl.Ssa{
		{}, {Values: 12}, {Values: 12, Parts: []impl.Part{}}, {Values: 12, Parts: []impl.Part{{}}}, rowOfParts(12), rowOfParts(1000),
		ssa(11, "trap"), ssa(251, "trap"), ssa(0, "end 0 1 2"), ssa(-1, "trap"), ssa(math.MinInt, "trap"), ssa(math.MaxInt, "trap"), ssa(1<<40, "end 0 1 2"),
		ssa(12, "const 12 0, trap"), ssa(13, "out 12, trap"), ssa(13, "copy 12 12, trap"), ssa(13, "const 12 1, const 12 2, trap"), ssa(13, "const 11 1, trap"),
		ssa(13, "with 12, trap"), ssa(13, "to 1; with 12, trap"), ssa(13, "to 1(0 0); with 12, trap"), ssa(14, "to 1(0 0); with 12 12, trap"),
		ssa(12, "to 0"), ssa(12, "to 1; to 0"), ssa(12, "to 1"), ssa(12, "to -1"), ssa(12, "trap; trap"), ssa(12, "to 1; trap; to 1"),
		ssa(13, "if 0 1 2; const 12 1, to 3; to 3; out 12, trap"), ssa(13, "to 1; out 12, if 0 1 2; const 12 1, trap"), ssa(13, "if 12 1 1; const 12 1, trap"),
		ssa(12, "end 0 1"), ssa(12, "end 0 1 2 3"), ssa(12, "end 0 1 12"), ssa(12, "out -1, trap"), ssa(12, "if 0 1; trap"), ssa(12, "table 0 1 1 1 1 1 1 1; trap"),
		{Values: 12, Parts: []impl.Part{{Go: 4, Test: 1}}}, {Values: 12, Parts: []impl.Part{{Go: 6}}}, {Values: 12, Parts: []impl.Part{{Go: 4, Args: [][]int{nil}}}},
		{Values: 12, Parts: []impl.Part{{Go: 4, Code: make([]impl.Flat, 61)}}}, {Values: 12, Parts: []impl.Part{{Go: 4, Code: []impl.Flat{{Op: 1, Dst: 3}}}}},
	} {
		if impl.GoodSsa(s) {
			t.Errorf("GoodSsa(%v)", s)
		}
		checkNoColours(t, s)
	}
}

// Promises 10 and 19: grown ssas of which one thing became another.
func TestColourAnything(t *testing.T) {
	pick := someSource()
	wrong, good := 0, 0
	for range 3000 {
		s := grownSsa(pick)
		spoilSsa(&s, pick)
		if goodSsaByHand(s) {
			good++
			checkColours(t, s)
		} else {
			wrong++
			checkNoColours(t, s)
		}
	}
	if wrong < 1000 || good < 200 {
		t.Errorf("so few of: %d wrong, %d good", wrong, good)
	}
}

// Promise 19: nil lists and empty ones are alike.
func TestColourOfNothing(t *testing.T) {
	var flats [3]impl.Flat
	for _, none := range [][]int{nil, {}, places(3)[:0]} {
		for _, steps := range [][]impl.Flat{nil, {}, flats[:0]} {
			for _, no := range [][][]int{nil, {}, lists("5")[:0]} {
				x := checkColours(t, impl.Ssa{Values: 12, Parts: []impl.Part{
					{Params: none, Code: steps, Go: impl.GoIf, Next: []int{1, 2}, Args: [][]int{none, none}},
					{Params: none, Code: steps, Go: impl.GoEnd, Next: none, Args: [][]int{{1, 2, 3}}},
					{Params: none, Code: steps, Go: impl.GoTrap, Next: none, Args: no},
				}})
				if x.most != 4 || x.checkColouring(t, none) || x.checkPerfect(t, none) {
					t.Error(x.most)
				}
			}
		}
	}
}

// Promise 19: no list that is handed in is changed, nor what lies behind it; and that tells nothing.
func TestColourListsStay(t *testing.T) {
	s, parts, flats, numbers := sharedSsa()
	before := copySsa(impl.Ssa{Parts: parts})
	flatsBefore, numbersBefore := slices.Clone(flats), slices.Clone(numbers)
	x := checkColours(t, s)
	if want := copySsa(s); !slices.Equal(checkColours(t, want).colours, x.colours) {
		t.Error(x.colours)
	}
	for many := range len(parts) + 1 {
		if many != 3 {
			checkNoColours(t, impl.Ssa{Values: 19, Parts: parts[:many]})
		}
	}
	// colours and an order with something behind their lengths
	memory := slices.Concat(x.colours, []int{-5, 77}, x.order, []int{0, 13, -1})
	memoryBefore := slices.Clone(memory)
	colours, order := memory[:19], memory[21:21+len(x.order)]
	if !x.checkColouring(t, colours) || !x.checkPerfect(t, order) || x.checkColouring(t, memory[:20]) || x.checkPerfect(t, memory[21:22+len(x.order)]) {
		t.Error(memory)
	}
	if !sameSsa(impl.Ssa{Parts: parts}, before) || !slices.Equal(flats, flatsBefore) || !slices.Equal(numbers, numbersBefore) || !slices.Equal(memory, memoryBefore) {
		t.Error(parts, flats, numbers, memory)
	}
	// a list of the ssa itself is the order
	own := ssa(12, "end 0 1 2")
	if is, ok := impl.IsPerfect(own, own.Parts[0].Args[0]); !is || !ok || !sameSsa(own, ssa(12, "end 0 1 2")) {
		t.Error(is, ok, own)
	}
}

// Promise 19: what is told shares no memory with what was handed in, nor do two lists of one answer share any, nor two answers.
func TestColourAnswersAreNew(t *testing.T) {
	shared, parts, flats, numbers := sharedSsa()
	before := copySsa(impl.Ssa{Parts: parts})
	flatsBefore, numbersBefore := slices.Clone(flats), slices.Clone(numbers)
	loop := ssa(14, "if 0 1(3 4) 1(4 3); with 12 13, out 12, if 0 1(12 13) 2; end 12 13 13")
	for _, s := range []impl.Ssa{shared, fullSsa(), loop, ssa(12, "end 0 1 2"), ssa(12, "trap"), ssa(14, "to 1(3 4); with 12 13, trap")} {
		kept := copySsa(s)
		stays := func() bool {
			return sameSsa(s, kept) && sameSsa(impl.Ssa{Parts: parts}, before) && slices.Equal(flats, flatsBefore) && slices.Equal(numbers, numbersBefore)
		}
		for _, tell := range []func(impl.Ssa) ([][]int, bool){impl.LiveIn, impl.LiveOut, impl.ClashesOf} {
			checkListsAreNew(t, func() [][]int { got, _ := tell(s); return got }, stays)
		}
		for _, ask := range []func() []int{
			func() []int { got, _, _ := impl.ColourSsa(s); return got },
			func() []int { got, _ := impl.OrderOfLives(s); return got },
		} {
			want := slices.Clone(ask())
			first, second := ask(), ask()
			spoilNumbers(first)
			if third := ask(); !slices.Equal(second, want) || !slices.Equal(third, want) || !stays() {
				t.Error(second, third, want)
			}
		}
	}
}
