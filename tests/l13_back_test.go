package tests

import (
	"math"
	"slices"
	"strings"
	"testing"

	"loop.example/g00373/impl"
)

// areMoves tells whether two lists of names and a spare one are as said: of more than 11 names some two are alike, or one is the spare one.
func areMoves(from []int, to []int, spare int) bool {
	if len(from) != len(to) || len(to) > 11 || spare < 0 || spare > 11 {
		return false
	}
	for i, name := range to {
		if from[i] == spare || name == spare || !areIn([]int{from[i], name}, 0, 11) || slices.Contains(to[:i], name) {
			return false
		}
	}
	return true
}

// layByHand strikes moves out of a list, one by one.
func layByHand(from []int, to []int, spare int) []impl.Flat {
	var out []impl.Flat
	from, done := slices.Clone(from), make([]bool, len(from))
	for i := range from {
		done[i] = from[i] == to[i]
	}
	for slices.Contains(done, false) {
		next := -1
		for i := range from {
			needed := 0
			for k := range from {
				if !done[k] && k != i && from[k] == to[i] {
					needed++
				}
			}
			if !done[i] && needed == 0 {
				next = i
				break
			}
		}
		if next >= 0 {
			out, done[next] = append(out, impl.Flat{Op: 2, Dst: to[next], A: from[next]}), true
			continue
		}
		old := from[slices.Index(done, false)]
		out = append(out, impl.Flat{Op: 2, Dst: spare, A: old})
		for k := range from {
			if !done[k] && from[k] == old {
				from[k] = spare
			}
		}
	}
	return out
}

// ringsByHand tells how many moves are to other names, and how many rings these have: from each name it goes back to where its word comes from.
func ringsByHand(from []int, to []int) (int, int) {
	moves, rings := 0, 0
	for i, first := range to {
		if from[i] == first {
			continue
		}
		moves++
		least, at := first, i
		for range to {
			if at = slices.Index(to, from[at]); at < 0 {
				break
			}
			least = min(least, to[at])
			if to[at] == first {
				if least == first { // each ring counts at its least name
					rings++
				}
				break
			}
		}
	}
	return moves, rings
}

// checkMoved does steps one after the other, from words that are told: each name of to has what was in its name of from then, and every other one but the spare one what it had; what was in the spare one is nowhere.
func checkMoved(t *testing.T, l []impl.Flat, from []int, to []int, spare int, words []int) {
	t.Helper()
	now, want := slices.Clone(words), slices.Clone(words)
	for i, name := range to {
		want[name] = words[from[i]]
	}
	for _, x := range l {
		if x != (impl.Flat{Op: impl.FxCopy, Dst: x.Dst, A: x.A}) {
			t.Fatalf("%v to %v: %v", from, to, l)
		}
		now[x.Dst] = now[x.A]
	}
	want[spare] = now[spare]
	if !slices.Equal(now, want) {
		t.Fatalf("%v to %v, spare %d: %v makes %v of %v, not %v", from, to, spare, l, now, words, want)
	}
}

// checkLay is the second half of promise 13, of any lists at all; it tells the steps, and how many rings there are.
func checkLay(t *testing.T, from []int, to []int, spare int) ([]impl.Flat, int) {
	t.Helper()
	fromBefore, toBefore := slices.Clone(from), slices.Clone(to)
	got, ok := impl.LayMoves(from, to, spare)
	if !slices.Equal(from, fromBefore) || !slices.Equal(to, toBefore) {
		t.Fatalf("%v %v were %v %v", from, to, fromBefore, toBefore)
	}
	if !areMoves(from, to, spare) {
		if len(got) != 0 || ok {
			t.Fatalf("LayMoves(%v, %v, %d): %v %v", from, to, spare, got, ok)
		}
		return nil, 0
	}
	if want := layByHand(from, to, spare); !slices.Equal(got, want) || !ok {
		t.Fatalf("LayMoves(%v, %v, %d): %v %v, not %v", from, to, spare, got, ok, want)
	}
	moves, rings := ringsByHand(from, to)
	if len(got) != moves+rings {
		t.Fatalf("LayMoves(%v, %v, %d): %v, of %d moves and %d rings", from, to, spare, got, moves, rings)
	}
	checkMoved(t, got, from, to, spare, []int{100, 101, 102, 103, 104, 105, 106, 107, 108, 109, 110, 111})
	f := []impl.Block{{Code: got, Go: impl.GoEnd}}
	if n, ok := impl.CopiesIn(f); n != moves+rings || !ok {
		t.Fatalf("CopiesIn(%v): %d %v", f, n, ok)
	}
	// the same by a run: the locals have words at first, all else is 0
	words := append(places(8), 0, 0, 0, 0)
	after, _, _, _ := impl.RunFlow(f, risingState(), 1)
	for i, name := range to {
		if name < 8 && after.Locals[name] != words[from[i]] {
			t.Fatalf("RunFlow(%v): %v", f, after.Locals)
		}
	}
	return got, rings
}

// copies tells FxCopy steps of words: where to, and where from.
func copies(text string) []impl.Flat {
	var out []impl.Flat
	for word := range strings.FieldsSeq(text) {
		two := numbersOf(strings.Split(word, "<"))
		out = append(out, impl.Flat{Op: impl.FxCopy, Dst: two[0], A: two[1]})
	}
	return out
}

// moves tells two lists of words: where from, and where to.
func moves(text string) ([]int, []int) {
	var from, to []int
	for word := range strings.FieldsSeq(text) {
		two := numbersOf(strings.Split(word, ">"))
		from, to = append(from, two[0]), append(to, two[1])
	}
	return from, to
}

// Promise 13: moves, and the steps in their order; rings are counted by the spare name.
func TestBackLay(t *testing.T) {
	for _, c := range []struct {
		moves string
		spare int
		steps string
	}{
		// none, and such as need not be done
		{"", 0, ""}, {"", 11, ""},
		{"0>0", 1, ""}, {"11>11", 0, ""}, {"3>3 5>5 4>4", 9, ""},
		{"0>0 1>1 2>2 3>3 4>4 5>5 6>6 7>7 8>8 9>9 10>10", 11, ""},
		{"1>1 2>3 4>4", 9, "3<2"}, {"2>2 2>3", 9, "3<2"}, {"2>3 2>2", 9, "3<2"},
		// one
		{"0>1", 2, "1<0"}, {"11>0", 1, "0<11"}, {"10>11", 0, "11<10"},
		// chains, in either order, and in others
		{"0>1 1>2", 9, "2<1 1<0"}, {"1>2 0>1", 9, "2<1 1<0"},
		{"0>1 1>2 2>3", 9, "3<2 2<1 1<0"}, {"2>3 1>2 0>1", 9, "3<2 2<1 1<0"}, {"1>2 0>1 2>3", 9, "3<2 2<1 1<0"},
		{"3>2 2>1 1>0", 9, "0<1 1<2 2<3"}, {"1>0 2>1 3>2", 9, "0<1 1<2 2<3"},
		{"0>1 1>2 2>3 3>4 4>5 5>6 6>7 7>8 8>9 9>10", 11, "10<9 9<8 8<7 7<6 6<5 5<4 4<3 3<2 2<1 1<0"},
		// two chains: each time the first one of the list that may be done
		{"1>2 2>3 5>6", 9, "3<2 2<1 6<5"}, {"1>2 5>6 2>3", 9, "6<5 3<2 2<1"}, {"5>6 1>2 2>3", 9, "6<5 3<2 2<1"},
		{"0>1 1>2 5>6 6>7", 9, "2<1 1<0 7<6 6<5"}, {"5>6 0>1 6>7 1>2", 9, "7<6 6<5 2<1 1<0"}, {"0>1 5>6 6>7 1>2", 9, "7<6 6<5 2<1 1<0"},
		// one name to several
		{"0>1 0>2 0>3", 9, "1<0 2<0 3<0"}, {"0>3 0>1 0>2", 9, "3<0 1<0 2<0"}, {"0>1 0>0 0>2", 9, "1<0 2<0"},
		{"0>1 0>2 2>3", 9, "1<0 3<2 2<0"}, {"0>2 0>1 2>3", 9, "1<0 3<2 2<0"}, {"0>2 2>3 2>4 0>1", 9, "3<2 4<2 2<0 1<0"},
		{"5>0 5>1 5>2 5>3 5>4 5>6 5>7 5>8 5>9 5>10", 11, "0<5 1<5 2<5 3<5 4<5 6<5 7<5 8<5 9<5 10<5"},
		// a ring of two, of three, of four
		{"0>1 1>0", 9, "9<0 0<1 1<9"}, {"1>0 0>1", 9, "9<1 1<0 0<9"}, {"10>11 11>10", 0, "0<10 10<11 11<0"},
		{"0>1 1>2 2>0", 9, "9<0 0<2 2<1 1<9"}, {"1>2 2>0 0>1", 9, "9<1 1<0 0<2 2<9"}, {"1>0 2>1 0>2", 3, "3<1 1<2 2<0 0<3"}, {"2>0 1>2 0>1", 9, "9<2 2<1 1<0 0<9"},
		{"0>1 1>2 2>3 3>0", 4, "4<0 0<3 3<2 2<1 1<4"}, {"0>1 2>3 1>2 3>0", 4, "4<0 0<3 3<2 2<1 1<4"},
		// of all
		{"0>1 1>2 2>3 3>4 4>5 5>6 6>7 7>8 8>9 9>10 10>0", 11, "11<0 0<10 10<9 9<8 8<7 7<6 6<5 5<4 4<3 3<2 2<1 1<11"},
		{"1>2 2>3 3>4 4>5 5>6 6>7 7>8 8>9 9>10 10>11 11>1", 0, "0<1 1<11 11<10 10<9 9<8 8<7 7<6 6<5 5<4 4<3 3<2 2<0"},
		// two rings, three, five: the spare name is used again
		{"0>1 1>0 2>3 3>2", 9, "9<0 0<1 1<9 9<2 2<3 3<9"}, {"0>1 2>3 1>0 3>2", 9, "9<0 0<1 1<9 9<2 2<3 3<9"}, {"2>3 0>1 1>0 3>2", 9, "9<2 2<3 3<9 9<0 0<1 1<9"},
		{"0>1 3>4 1>2 4>5 2>0 5>3", 9, "9<0 0<2 2<1 1<9 9<3 3<5 5<4 4<9"}, {"0>1 1>0 2>3 3>4 4>2 5>6 6>5", 7, "7<0 0<1 1<7 7<2 2<4 4<3 3<7 7<5 5<6 6<7"},
		{"0>1 1>0 2>3 3>2 4>5 5>4 6>7 7>6 8>9 9>8 10>10", 11, "11<0 0<1 1<11 11<2 2<3 3<11 11<4 4<5 5<11 11<6 6<7 7<11 11<8 8<9 9<11"},
		// a ring with a chain behind it, which goes first, wherever it stands
		{"0>1 1>0 1>2", 9, "2<1 9<0 0<1 1<9"}, {"0>1 1>0 1>2 2>3", 9, "3<2 2<1 9<0 0<1 1<9"}, {"2>3 1>2 0>1 1>0", 9, "3<2 2<1 9<0 0<1 1<9"}, {"1>2 0>1 2>3 1>0", 9, "3<2 2<1 9<0 0<1 1<9"},
		// a ring one of whose names goes to others, too; all of whose names do
		{"0>1 1>0 2>2 0>3", 9, "3<0 9<0 0<1 1<9"}, {"0>3 0>1 1>0 0>4", 9, "3<0 4<0 9<0 0<1 1<9"}, {"0>1 1>2 2>0 0>3 1>4 2>5", 9, "3<0 4<1 5<2 9<0 0<2 2<1 1<9"},
		// a ring, and a chain apart from it
		{"0>1 1>0 4>5 5>6", 9, "6<5 5<4 9<0 0<1 1<9"}, {"4>5 0>1 5>6 1>0", 9, "6<5 5<4 9<0 0<1 1<9"},
	} {
		from, to := moves(c.moves)
		got, _ := checkLay(t, from, to, c.spare)
		if l, ok := impl.LayMoves(from, to, c.spare); !slices.Equal(l, copies(c.steps)) || !slices.Equal(got, l) || !ok {
			t.Errorf("%s, spare %d: %v %v, not %s", c.moves, c.spare, l, ok, c.steps)
		}
	}
}

// Promise 13: all lists of moves among four names, and from a fifth one.
func TestBackLayAll(t *testing.T) {
	many, looked := [3]int{}, 0
	var goOn func(from []int, to []int)
	goOn = func(from []int, to []int) {
		for _, spare := range []int{5, 11} {
			_, rings := checkLay(t, from, to, spare)
			many[rings]++
		}
		looked++
		for name := range 4 {
			if slices.Contains(to, name) {
				continue
			}
			for source := range 5 {
				goOn(append(slices.Clone(from), source), append(slices.Clone(to), name))
			}
		}
	}
	goOn(nil, nil)
	if want := 1 + 4*5 + 12*25 + 24*125 + 24*625; looked != want || slices.Min(many[:]) < 100 {
		t.Error(looked, many)
	}
}

// grownMoves tells moves among all names but one, many of which go round; and that one.
func grownMoves(pick func(int) int) ([]int, []int, int) {
	spare := pick(12)
	names := slices.DeleteFunc(places(12), func(name int) bool { return name == spare })
	mix := func() []int {
		out := slices.Clone(names)
		for i := range out {
			k := i + pick(len(out)-i)
			out[i], out[k] = out[k], out[i]
		}
		return out
	}
	many := pick(12)
	from, to := mix()[:many], mix()[:many]
	if pick(2) == 0 { // among few names
		few := slices.Clone(to)
		slices.Sort(few)
		for i := range from {
			from[i] = few[pick(many)]
		}
	}
	for i := range from {
		if pick(6) == 0 {
			from[i] = names[pick(11)]
		}
	}
	return from, to, spare
}

// Promise 13: grown moves among any names, and from any words.
func TestBackLayMixed(t *testing.T) {
	pick := someSource()
	var rings [6]int
	for range 20000 {
		from, to, spare := grownMoves(pick)
		l, many := checkLay(t, from, to, spare)
		rings[many]++
		var words []int
		for range 12 {
			words = append(words, pick(3)*pick(65536))
		}
		checkMoved(t, l, from, to, spare, words)
	}
	if slices.Min(rings[:4]) < 50 {
		t.Error("so few of: ", rings)
	}
}

// Promise 19: lists of unlike lengths, two of to alike, the spare name among those that are moved; names at their ends and beyond.
func TestBackLayWrong(t *testing.T) {
	some := []int{math.MinInt, math.MinInt + 1, -12, -1, 12, 13, 1 << 32, math.MaxInt - 1, math.MaxInt}
	for _, c := range []struct {
		from, to []int
		spare    int
	}{
		{[]int{0}, nil, 9}, {nil, []int{0}, 9}, {[]int{0, 1}, []int{2}, 9}, {[]int{0}, []int{1, 2}, 9}, {places(5), places(4), 9}, {places(4), places(5), 9},
		{[]int{0, 1}, []int{2, 2}, 9}, {[]int{0, 0}, []int{2, 2}, 9}, {[]int{2, 2}, []int{2, 2}, 9}, {[]int{0, 1, 3}, []int{2, 4, 2}, 9},
		{[]int{0}, []int{1}, 0}, {[]int{0}, []int{1}, 1}, {[]int{0}, []int{0}, 0}, {[]int{0, 1}, []int{1, 0}, 0}, {[]int{0, 1}, []int{1, 0}, 1}, {[]int{3, 4}, []int{5, 6}, 4}, {[]int{3, 4}, []int{5, 6}, 6}, {[]int{3, 4}, []int{4, 5}, 4}, {[]int{3, 4}, []int{5, 4}, 4},
		{places(12), places(12), 0}, {places(12), places(12), 11}, {places(12), places(12), 12}, {make([]int, 12), places(12), 11},
	} {
		if areMoves(c.from, c.to, c.spare) {
			t.Error(c)
		}
		checkLay(t, c.from, c.to, c.spare)
	}
	for _, n := range some {
		checkLay(t, nil, nil, n)
		checkLay(t, []int{n}, []int{n}, 5)
		checkLay(t, []int{n}, []int{n}, n)
		for at := range 3 {
			from, to := []int{0, 1, 2}, []int{1, 0, 3}
			checkLay(t, from, to, n)
			from[at] = n
			checkLay(t, from, to, 5)
			checkLay(t, from, to, n)
			to[at] = n
			checkLay(t, from, to, 5)
			from[at] = 4
			checkLay(t, from, to, 5)
			checkLay(t, from, to, n)
		}
	}
	long := make([]int, 100000)
	checkLay(t, long, long, 5)
	checkLay(t, long, make([]int, 100000), 5)
	checkLay(t, long, nil, 5)
	for name := range 12 { // each name does
		other, spare := (name+1)%12, (name+2)%12
		if l, _ := checkLay(t, []int{name}, []int{other}, spare); len(l) != 1 {
			t.Error(name, l)
		}
		if l, _ := checkLay(t, []int{name, other}, []int{other, name}, spare); len(l) != 3 {
			t.Error(name, l)
		}
	}
}

// Promises 13 and 19: grown moves of which one number became another, or one list is longer.
func TestBackLayAnything(t *testing.T) {
	pick := someSource()
	some := []int{math.MinInt, -1, 0, 1, 2, 3, 5, 7, 8, 10, 11, 12, math.MaxInt}
	good, wrong := 0, 0
	for range 20000 {
		from, to, spare := grownMoves(pick)
		numbers := []*int{&spare}
		for i := range from {
			numbers = append(numbers, &from[i], &to[i])
		}
		*numbers[pick(len(numbers))] = some[pick(len(some))]
		switch pick(8) {
		case 0:
			from = append(from, some[pick(len(some))])
		case 1:
			to = append(to, some[pick(len(some))])
		}
		checkLay(t, from, to, spare)
		if areMoves(from, to, spare) {
			good++
		} else {
			wrong++
		}
	}
	if good < 1000 || wrong < 5000 {
		t.Errorf("so few of: %d good, %d wrong", good, wrong)
	}
}

// edgesByHand tells the critical edges, and those of them that have Args.
func edgesByHand(s impl.Ssa) ([]stepAt, []stepAt) {
	var all []int
	for _, p := range s.Parts {
		all = append(all, p.Next...)
	}
	var critical, handing []stepAt
	for at, p := range s.Parts {
		for place, to := range p.Next {
			others := slices.DeleteFunc(slices.Clone(all), func(other int) bool { return other != to })
			if len(p.Next) == 1 || len(others) == 1 {
				continue
			}
			critical = append(critical, stepAt{at, place})
			if len(p.Args[place]) > 0 {
				handing = append(handing, stepAt{at, place})
			}
		}
	}
	return critical, handing
}

// splitEdgesByHand tells an ssa with all its edges split, however many parts it has then.
func splitEdgesByHand(s impl.Ssa) impl.Ssa {
	_, edges := edgesByHand(s)
	out := copySsa(s)
	for i, e := range edges {
		p := s.Parts[e.part]
		out.Parts = append(out.Parts, impl.Part{Go: 1, Next: []int{p.Next[e.place]}, Args: [][]int{slices.Clone(p.Args[e.place])}})
		out.Parts[e.part].Next[e.place], out.Parts[e.part].Args[e.place] = len(s.Parts)+i, nil
	}
	return out
}

// backed is a good ssa, and what is told of it.
type backed struct {
	s      impl.Ssa
	split  impl.Ssa // as it is made by hand, however many parts it has
	edges  []stepAt // those that are split
	why    string   // why there is no flow; nothing, where there is one
	many   int      // how many names are needed
	ahead  int      // how many steps part 0 has ahead of its own
	f      []impl.Block
	rounds int // how often a spare name is used
}

// toldBy tells what values become.
func toldBy(l []int, told func(int) int) []int {
	var out []int
	for _, value := range l {
		out = append(out, told(value))
	}
	return out
}

// isMany tells whether a part that goes on several ways has Args.
func isMany(p impl.Part) bool {
	return len(p.Next) > 1 && slices.ContainsFunc(p.Args, func(args []int) bool { return len(args) > 0 })
}

// backByHand tells the flow of an ssa, and if there is none, why: parts, names, ways, long.
func backByHand(s impl.Ssa) backed {
	x := backed{s: s, split: splitEdgesByHand(s)}
	_, x.edges = edgesByHand(s)
	if len(x.split.Parts) > 11 {
		x.why = "parts"
		return x
	}
	h := livesByHand(x.split)
	colours, many := coloursByHand(h.clashes(), h.order())
	x.many = many
	if many > 6 {
		x.why = "names"
		return x
	}
	if slices.ContainsFunc(x.split.Parts, isMany) {
		x.why = "ways"
		return x
	}
	name := func(value int) int { return colours[value] + 1 }
	for at, p := range x.split.Parts {
		b := impl.Block{Go: p.Go, Test: p.Test, Next: slices.Clone(p.Next)}
		lay := func(from []int, to []int, spare int) {
			_, rings := ringsByHand(from, to)
			x.rounds += rings
			b.Code = append(b.Code, layByHand(from, to, spare)...)
		}
		if at == 0 {
			first := marked(h.in[0])
			locals := slices.DeleteFunc(slices.Clone(first), func(value int) bool { return value > 7 })
			lay(locals, toldBy(locals, name), 8)
			for _, value := range first[len(locals):] {
				b.Code = append(b.Code, impl.Flat{Op: 1, Dst: name(value)})
			}
			x.ahead = len(b.Code)
		}
		for _, x := range p.Code {
			uses, makes := usedByHand(x)
			for i, value := range uses {
				*fieldsOf(&x)[2+i] = name(value)
			}
			if len(makes) > 0 {
				x.Dst = name(x.Dst)
			}
			b.Code = append(b.Code, x)
		}
		switch p.Go {
		case 1:
			lay(toldBy(p.Args[0], name), toldBy(x.split.Parts[p.Next[0]].Params, name), 0)
		case 2, 5:
			b.Test = name(p.Test)
		case 3:
			lay(toldBy(p.Args[0], name), places(3), 7)
		}
		if len(b.Code) > 60 {
			x.why = "long"
		}
		x.f = append(x.f, b)
	}
	if x.why != "" {
		x.f = nil
	}
	return x
}

// checkSplitEdges holds IsSplit and SplitEdges of a good ssa against what is worked out by hand.
func checkSplitEdges(t *testing.T, x backed) {
	t.Helper()
	if is, ok := impl.IsSplit(x.s); is != (len(x.edges) == 0) || !ok {
		t.Fatalf("IsSplit(%v): %v %v", x.s, is, ok)
	}
	got, many, ok := impl.SplitEdges(x.s)
	if x.why == "parts" {
		if len(got.Parts) != 0 || got.Values != 0 || many != 0 || ok {
			t.Fatalf("SplitEdges(%v): %v %d %v", x.s, got, many, ok)
		}
		return
	}
	if !sameSsa(got, x.split) || many != len(x.edges) || !ok {
		t.Fatalf("SplitEdges(%v): %v %d %v, not %v %v", x.s, got, many, ok, x.split, x.edges)
	}
	if !impl.GoodSsa(got) || !goodSsaByHand(got) {
		t.Fatalf("SplitEdges(%v): %v", x.s, got)
	}
	if is, ok := impl.IsSplit(got); !is || !ok {
		t.Fatalf("IsSplit(%v): %v %v", got, is, ok)
	}
	if again, n, ok := impl.SplitEdges(got); !sameSsa(again, got) || n != 0 || !ok {
		t.Fatalf("SplitEdges(%v): %v %d %v", got, again, n, ok)
	}
}

// checkNames looks for names that no step and no Test of a flow may have: none is 8 or above. Of those there at first the moves may have the spare one, 8, but as their values come to names in rising order, none of their moves goes round.
func (x backed) checkNames(t *testing.T, f []impl.Block) {
	t.Helper()
	for _, b := range f {
		names := []int{b.Test}
		for _, step := range b.Code {
			uses, makes := usedByHand(step)
			names = slices.Concat(names, uses, makes)
		}
		if !areIn(names, 0, 7) {
			t.Fatalf("BackFlow(%v): %v", x.s, f)
		}
	}
}

// checkBack is promise 13 of a good ssa, but for runs; and it holds all that is told of it against what is worked out by hand.
func checkBack(t *testing.T, s impl.Ssa) backed {
	t.Helper()
	before := copySsa(s)
	x := backByHand(s)
	checkSplitEdges(t, x)
	_, colours, _ := impl.ColourSsa(x.split)
	if many, ok := impl.NamesNeeded(s); many != x.many || many != colours || ok != (x.why != "parts") {
		t.Fatalf("NamesNeeded(%v): %d %v, not %d, %d", s, many, ok, x.many, colours)
	}
	f, ok := impl.BackFlow(s)
	if !sameFlow(f, x.f) || ok != (x.why == "") {
		t.Fatalf("BackFlow(%v): %v %v, not %v: %s", s, f, ok, x.f, x.why)
	}
	if ok {
		if !impl.GoodFlow(f) || !goodFlowByHand(f) {
			t.Fatalf("BackFlow(%v): %v", s, f)
		}
		x.checkNames(t, f)
		checkCopies(t, f)
	}
	if !sameSsa(s, before) {
		t.Fatalf("%v was %v", s, before)
	}
	return x
}

// checkCopies holds CopiesIn of a good flow against what is counted by hand.
func checkCopies(t *testing.T, f []impl.Block) int {
	t.Helper()
	want, before := 0, copyFlow(f)
	for _, b := range f {
		for _, x := range b.Code {
			if x.Op == 2 {
				want++
			}
		}
	}
	if n, ok := impl.CopiesIn(f); n != want || !ok || !sameFlow(f, before) {
		t.Fatalf("CopiesIn(%v): %d %v, not %d", f, n, ok, want)
	}
	return want
}

// checkSameKept looks whether two runs, neither of which ends with OutFuel, come to the same: how they end, what is told and stored, and, where they come to the end, the first locals.
func checkSameKept(t *testing.T, what any, got impl.State, how int, want impl.State, wantHow int) {
	t.Helper()
	if how != wantHow || !slices.Equal(got.Told, want.Told) || !slices.Equal(got.Mem, want.Mem) {
		t.Fatalf("%v: %v %d, not %v %d", what, got, how, want, wantHow)
	}
	if how == impl.OutEnd && !slices.Equal(got.Locals[:3], want.Locals[:3]) {
		t.Fatalf("%v: %v, not %v", what, got.Locals, want.Locals)
	}
}

// checkSplitRun looks whether with its edges split an ssa comes to the same, and to the same words; it tells how, or OutFuel.
func (x backed) checkSplitRun(t *testing.T, state impl.State, fuel int) int {
	t.Helper()
	want, wantHow, wantBegun, _ := impl.RunSsa(x.s, state, fuel)
	got, how, begun, ok := impl.RunSsa(x.split, state, fuel)
	if !ok || how != impl.OutFuel && wantHow == impl.OutFuel {
		t.Fatalf("RunSsa(%v, %v, %d): %d %v", x.split, state, fuel, how, ok)
	}
	if how == impl.OutFuel {
		return how
	}
	if begun < wantBegun || len(x.edges) == 0 && begun != wantBegun {
		t.Fatalf("RunSsa(%v, %v, %d): %d, not %d", x.split, state, fuel, begun, wantBegun)
	}
	checkSameKept(t, x.split, got, how, want, wantHow)
	words, _, _ := impl.TraceSsa(x.s, state, fuel)
	if now, _, _ := impl.TraceSsa(x.split, state, fuel); !slices.Equal(now, words) {
		t.Fatalf("TraceSsa(%v, %v, %d): %v, not %v", x.split, state, fuel, now, words)
	}
	return how
}

// checkRun is promise 13 of a run: where neither ends with OutFuel both come to the same. Each part of the ssa with its edges split is a block: with like fuel both are as far. It tells how the flow ends, 0 where there is none.
func (x backed) checkRun(t *testing.T, state impl.State, fuel int) int {
	t.Helper()
	if x.why == "parts" {
		return 0
	}
	before := copyOfState(state)
	x.checkSplitRun(t, state, fuel)
	if x.why != "" {
		return 0
	}
	want, wantHow, _, _ := impl.RunSsa(x.s, state, fuel)
	got, how, begun, ok := impl.RunFlow(x.f, state, fuel)
	if !ok {
		t.Fatalf("RunFlow(%v, %v, %d)", x.f, state, fuel)
	}
	if how != impl.OutFuel && wantHow != impl.OutFuel {
		checkSameKept(t, x.f, got, how, want, wantHow)
	}
	want, wantHow, wantBegun, _ := impl.RunSsa(x.split, state, fuel)
	if begun != wantBegun {
		t.Fatalf("RunFlow(%v, %v, %d): %d, not %d", x.f, state, fuel, begun, wantBegun)
	}
	checkSameKept(t, x.f, got, how, want, wantHow)
	if !sameStates(state, before) {
		t.Fatalf("%v was %v", state, before)
	}
	return how
}

// checkNoBack looks for the zero answer of every function that takes an ssa.
func checkNoBack(t *testing.T, s impl.Ssa) {
	t.Helper()
	before := copySsa(s)
	if is, ok := impl.IsSplit(s); is || ok {
		t.Errorf("IsSplit(%v): %v %v", s, is, ok)
	}
	if got, n, ok := impl.SplitEdges(s); len(got.Parts) != 0 || got.Values != 0 || n != 0 || ok {
		t.Errorf("SplitEdges(%v): %v %d %v", s, got, n, ok)
	}
	if n, ok := impl.NamesNeeded(s); n != 0 || ok {
		t.Errorf("NamesNeeded(%v): %d %v", s, n, ok)
	}
	if f, ok := impl.BackFlow(s); len(f) != 0 || ok {
		t.Errorf("BackFlow(%v): %v %v", s, f, ok)
	}
	if !sameSsa(s, before) {
		t.Errorf("%v was %v", s, before)
	}
}

// splitCase is an ssa, it with its edges split (the same text where it is empty), and how many were.
type splitCase struct {
	values int
	text   string
	split  string
	many   int
}

// Promise 13: critical edges with Args are split, part by part, Next by Next; all others stay.
func TestBackSplit(t *testing.T) {
	for _, c := range []splitCase{
		// no critical edge
		{12, "trap", "", 0},
		{12, "end 0 1 2", "", 0},
		{13, "to 1(3); with 12, end 12 0 0", "", 0},
		{12, "if 0 1 2; trap; end 0 1 2", "", 0},
		{13, "if 0 1(3) 2; with 12, end 12 0 0; trap", "", 0},
		{14, "table 0 1(3) 2(4) 3; with 12, trap; with 13, trap; trap", "", 0},
		{13, "if 0 1 2; to 3(4); to 3(5); with 12, end 12 0 0", "", 0},
		{13, "to 1(3); with 12, to 1(12)", "", 0},
		// critical ones without Args
		{12, "if 0 1 1; trap", "", 0},
		{12, "if 0 1 2; to 2; end 0 1 2", "", 0},
		{12, "to 1; if 0 1 2; trap", "", 0},
		{12, "table 0 1 1 1 1 1 1; trap", "", 0},
		// one with Args: a way past a part, a way back
		{13, "if 0 1 2(3); to 2(4); with 12, end 12 0 0", "if 0 1 3; to 2(4); with 12, end 12 0 0; to 2(3)", 1},
		{13, "if 0 2(3) 1; to 2(4); with 12, end 12 0 0", "if 0 3 1; to 2(4); with 12, end 12 0 0; to 2(3)", 1},
		{13, "to 1(3); with 12, if 0 1(12) 2; trap", "to 1(3); with 12, if 0 3 2; trap; to 1(12)", 1},
		{15, "to 1(3 4); with 12 13, const 14 1, if 14 1(13 14) 2; out 14, end 12 13 14", "to 1(3 4); with 12 13, const 14 1, if 14 3 2; out 14, end 12 13 14; to 1(13 14)", 1},
		// a critical one with Args, one without, and one that is not critical with Args
		{14, "to 1(3); with 12, table 12 2 3(4) 3(5) 2; if 1 3(12) 4; with 13, out 13, to 4; trap", "to 1(3); with 12, table 12 2 5 6 2; if 1 7 4; with 13, out 13, to 4; trap; to 3(4); to 3(5); to 3(12)", 3},
		{14, "to 1(3); with 12, table 12 2 3(4) 3(5) 2; if 1 4 4; with 13, out 13, to 4; trap", "to 1(3); with 12, table 12 2 5 6 2; if 1 4 4; with 13, out 13, to 4; trap; to 3(4); to 3(5)", 2},
		{14, "if 0 1(3) 2; with 12, table 12 3(4) 3(12) 2; trap; with 13, out 13, to 2", "if 0 1(3) 2; with 12, table 12 4 5 2; trap; with 13, out 13, to 2; to 3(4); to 3(12)", 2},
		// both Next one part; several at one table
		{13, "if 0 1(3) 1(4); with 12, end 12 0 0", "if 0 2 3; with 12, end 12 0 0; to 1(3); to 1(4)", 2},
		{13, "if 0 1(3) 1(3); with 12, end 12 0 0", "if 0 2 3; with 12, end 12 0 0; to 1(3); to 1(3)", 2},
		{13, "table 0 1(3) 2 1(4) 2 1(5) 1(6); with 12, end 12 0 0; trap", "table 0 3 2 4 2 5 6; with 12, end 12 0 0; trap; to 1(3); to 1(4); to 1(5); to 1(6)", 4},
		{14, "table 0 2(3) 1(4) 2(5) 1(6); with 12, end 12 0 0; with 13, end 13 0 0", "table 0 3 4 5 6; with 12, end 12 0 0; with 13, end 13 0 0; to 2(3); to 1(4); to 2(5); to 1(6)", 4},
		// several parts: as they stand, whichever comes to be begun first
		{14, "to 2(3); with 12, if 12 2(12) 3; with 13, if 13 1(13) 1(4); trap", "to 2(3); with 12, if 12 4 3; with 13, if 13 5 6; trap; to 2(12); to 1(13); to 1(4)", 3},
		{14, "if 0 3(0) 1; to 3(1); with 13, if 13 2(13) 3(2); with 12, if 12 2(12) 4; trap", "if 0 5 1; to 3(1); with 13, if 13 6 7; with 12, if 12 8 4; trap; to 3(0); to 2(13); to 3(2); to 2(12)", 4},
		// an edge to a part to which another one, that is split, too, leads
		{13, "if 0 2(3) 1; if 1 2(4) 3; with 12, end 12 0 0; trap", "if 0 4 1; if 1 5 3; with 12, end 12 0 0; trap; to 2(3); to 2(4)", 2},
	} {
		s := ssa(c.values, c.text)
		want := s
		if c.split != "" {
			want = ssa(c.values, c.split)
		}
		got, many, ok := impl.SplitEdges(s)
		if !sameSsa(got, want) || many != c.many || !ok {
			t.Errorf("SplitEdges(%s): %v %d %v, not %s", c.text, got, many, ok, c.split)
		}
		if is, ok := impl.IsSplit(s); is != (c.many == 0) || !ok {
			t.Errorf("IsSplit(%s): %v %v", c.text, is, ok)
		}
		x := checkBack(t, s)
		for a := range 4 {
			for fuel := range 10 {
				x.checkRun(t, stateOf(a, 2), fuel)
			}
		}
	}
}

// branching is so many parts, one behind the other, such that so many critical edges with Args lead from the first one to the second one.
func branching(parts int, edges int) impl.Ssa {
	s := rowOfParts(parts)
	s.Values = 13
	s.Parts[1].Params = []int{12}
	s.Parts[0] = impl.Part{Go: impl.GoTable, Next: slices.Repeat([]int{1}, edges)}
	for i := range edges {
		s.Parts[0].Args = append(s.Parts[0].Args, []int{i})
	}
	if edges == 0 {
		s.Parts[0] = part("to 1(3)")
	}
	return s
}

// Promises 13 and 19: as many parts as there may be when edges are split, and one more.
func TestBackSplitMost(t *testing.T) {
	for parts := 2; parts <= 11; parts++ {
		for edges := range 7 {
			if edges == 1 {
				continue
			}
			s := branching(parts, edges)
			x := checkBack(t, s)
			got, many, ok := impl.SplitEdges(s)
			if can := parts+edges <= 11; ok != can || can && (many != edges || len(got.Parts) != parts+edges) {
				t.Error(parts, edges, many, ok)
			}
			if names, ok := impl.NamesNeeded(s); ok != (parts+edges <= 11) || !ok && names != 0 {
				t.Error(parts, edges, names, ok)
			}
			if f, ok := impl.BackFlow(s); ok != (parts+edges <= 11) || ok && len(f) != parts+edges {
				t.Error(parts, edges, f, ok)
			}
			for a := range 7 {
				x.checkRun(t, stateOf(a, 2), 15)
			}
		}
	}
	// as many edges as there can be, none of which has Args, or each of which has
	s := impl.Ssa{Values: 22, Parts: make([]impl.Part, 11)}
	for at := range s.Parts {
		s.Parts[at] = impl.Part{Go: impl.GoTable, Next: slices.Repeat([]int{1 + at%10, 1 + (at+1)%10}, 3), Args: make([][]int, 6)}
	}
	if x := checkBack(t, s); len(x.edges) != 0 || x.why != "" {
		t.Error(x.edges, x.why)
	}
	for at := range s.Parts {
		if at > 0 {
			s.Parts[at].Params = []int{11 + at}
		}
		for i := range s.Parts[at].Args {
			s.Parts[at].Args[i] = []int{i}
		}
	}
	if x := checkBack(t, s); len(x.edges) != 66 || x.why != "parts" {
		t.Error(x.edges, x.why)
	}
}

// backCase is an ssa, and its flow; nothing, where there is none.
type backCase struct {
	values int
	text   string
	names  int
	flow   string
}

func checkBackCases(t *testing.T, cases []backCase) {
	t.Helper()
	for _, c := range cases {
		s := ssa(c.values, c.text)
		if !impl.GoodSsa(s) {
			t.Fatal(c.text)
		}
		var want []impl.Block
		if c.flow != "" {
			want = flow(c.flow)
		}
		if f, ok := impl.BackFlow(s); !sameFlow(f, want) || ok != (c.flow != "") {
			t.Errorf("BackFlow(%s): %v %v, not %s", c.text, f, ok, c.flow)
		}
		if names, ok := impl.NamesNeeded(s); names != c.names || !ok {
			t.Errorf("NamesNeeded(%s): %d %v, not %d", c.text, names, ok, c.names)
		}
		x := checkBack(t, s)
		for _, state := range []impl.State{risingState(), stateOf(0, 1), stateOf(3, 3)} {
			for fuel := range 16 {
				x.checkRun(t, state, fuel)
			}
		}
	}
}

// Promise 13: what is there at first comes to its names: locals, others, both, none; and what is kept to the first names.
func TestBackFirst(t *testing.T) {
	checkBackCases(t, []backCase{
		// none
		{12, "trap", 0, "trap"},
		{250, "trap", 0, "trap"},
		{14, "const 13 5, out 13, trap", 1, "const 1 5, out 1, trap"},
		{13, "const 12 9, end 12 12 12", 1, "const 1 9, copy 0 1, copy 2 1, end"},
		// locals
		{12, "out 0, trap", 1, "copy 1 0, out 1, trap"},
		{12, "out 1, trap", 1, "out 1, trap"},
		{12, "out 7, trap", 1, "copy 1 7, out 1, trap"},
		{12, "out 2, out 1, trap", 2, "out 2, out 1, trap"},
		{12, "out 7, out 0, trap", 2, "copy 1 0, copy 2 7, out 2, out 1, trap"},
		{12, "out 0, out 1, out 2, trap", 3, "copy 3 2, copy 2 1, copy 1 0, out 1, out 2, out 3, trap"},
		{12, "out 0, out 1, out 5, out 6, trap", 4, "copy 2 1, copy 1 0, copy 3 5, copy 4 6, out 1, out 2, out 3, out 4, trap"},
		// others
		{12, "out 8, trap", 1, "const 1 0, out 1, trap"},
		{12, "out 11, out 9, trap", 2, "const 1 0, const 2 0, out 2, out 1, trap"},
		{12, "end 8 8 9", 2, "const 1 0, const 2 0, copy 0 1, end"},
		// both
		{12, "out 11, end 5 8 5", 3, "copy 1 5, const 2 0, const 3 0, out 3, copy 0 1, copy 7 2, copy 2 1, copy 1 7, end"},
		{12, "out 0, out 1, out 10, trap", 3, "copy 2 1, copy 1 0, const 3 0, out 1, out 2, out 3, trap"},
		// those that another part needs
		{12, "to 1; out 4, trap", 1, "copy 1 4, to 1; out 1, trap"},
		{12, "if 6 1 2; out 4, trap; out 9, trap", 3, "copy 1 4, copy 2 6, const 3 0, if 2 1 2; out 1, trap; out 3, trap"},
		// ends
		{12, "end 0 1 2", 3, "copy 3 2, copy 2 1, copy 1 0, copy 0 1, copy 1 2, copy 2 3, end"},
		{12, "end 2 1 0", 3, "copy 3 2, copy 2 1, copy 1 0, copy 0 3, copy 7 2, copy 2 1, copy 1 7, end"},
		{12, "end 1 2 3", 3, "copy 0 1, copy 1 2, copy 2 3, end"},
		{12, "end 3 1 2", 3, "copy 0 3, end"},
		{12, "end 3 2 1", 3, "copy 0 3, copy 7 2, copy 2 1, copy 1 7, end"},
		{12, "end 4 4 4", 1, "copy 1 4, copy 0 1, copy 2 1, end"},
		{15, "const 14 1, const 13 2, const 12 3, end 12 14 13", 3, "const 1 1, const 2 2, const 3 3, copy 0 3, end"},
		{15, "const 14 1, const 13 2, const 12 3, end 12 13 14", 3, "const 1 1, const 2 2, const 3 3, copy 0 3, copy 7 2, copy 2 1, copy 1 7, end"},
	})
}

// Promise 13: steps of each kind, each way to go on, with names; a Dst takes a name that nobody needs any more.
func TestBackSteps(t *testing.T) {
	checkBackCases(t, []backCase{
		{14, "const 12 65535, copy 13 12, out 13, trap", 1, "const 1 65535, copy 1 1, out 1, trap"},
		{14, "const 12 3, copy 13 12, out 12, out 13, trap", 2, "const 1 3, copy 2 1, out 1, out 2, trap"},
		{18, "add 12 1 2, sub 13 1 2, mul 14 13 12, div 15 14 2, less 16 15 1, eq 17 16 16, out 17, trap", 4, "add 3 1 2, sub 4 1 2, mul 3 4 3, div 2 3 2, less 1 2 1, eq 1 1 1, out 1, trap"},
		{14, "load 12 1, store 12 2, store 2 12, load 13 2, out 13, trap", 2, "load 1 1, store 1 2, store 2 1, load 1 2, out 1, trap"},
		// nobody needs it
		{14, "const 12 3, const 13 4, trap", 1, "const 1 3, const 1 4, trap"},
		{13, "out 1, load 12 1, out 1, trap", 2, "out 1, load 2 1, out 1, trap"},
		// ways
		{12, "to 1; trap", 0, "to 1; trap"},
		{12, "if 1 1 2; trap; trap", 1, "if 1 1 2; trap; trap"},
		{12, "if 2 2 1; trap; out 1, trap", 2, "if 2 2 1; trap; out 1, trap"},
		{12, "table 3 1 2 1 1 2 1; trap; trap", 1, "copy 1 3, table 1 1 2 1 1 2 1; trap; trap"},
		{12, "to 2; trap; if 1 2 1", 1, "to 2; trap; if 1 2 1"},
		{14, "const 13 2, const 12 7, table 12 1 2; out 13, trap; trap", 2, "const 1 2, const 2 7, table 2 1 2; out 1, trap; trap"},
	})
}

// Promise 13: what a part hands on is moved, all at once.
func TestBackHands(t *testing.T) {
	checkBackCases(t, []backCase{
		{13, "to 1(1); with 12, out 12, trap", 1, "to 1; out 1, trap"},
		{13, "to 1(1); with 12, out 1, out 12, trap", 2, "copy 2 1, to 1; out 1, out 2, trap"},
		{13, "to 1(9); with 12, out 12, trap", 1, "const 1 0, to 1; out 1, trap"},
		{15, "to 1(1 1 2); with 12 13 14, end 12 13 14", 3, "copy 3 2, copy 2 1, to 1; copy 0 1, copy 1 2, copy 2 3, end"},
		// those whose names are those of other Args: a ring of two, of three; and with one that another one needs, too
		{14, "to 1(1 2); with 12 13, if 12 2 3; to 1(13 12); end 12 13 12", 2, "to 1; if 1 2 3; copy 0 2, copy 2 1, copy 1 0, to 1; copy 0 1, copy 7 2, copy 2 1, copy 1 7, end"},
		{15, "to 1(1 2 3); with 12 13 14, out 12, if 12 2 3; to 1(13 14 12); end 12 13 14", 3, "to 1; out 1, if 1 2 3; copy 0 2, copy 2 3, copy 3 1, copy 1 0, to 1; copy 0 1, copy 1 2, copy 2 3, end"},
		{15, "to 1(1 2 3); with 12 13 14, out 12, if 12 2 3; to 1(13 12 12); end 12 13 14", 3, "to 1; out 1, if 1 2 3; copy 3 1, copy 0 2, copy 2 1, copy 1 0, to 1; copy 0 1, copy 1 2, copy 2 3, end"},
		// round a loop, by a part put on the way back
		{14, "to 1(1 2); with 12 13, out 12, if 12 1(13 12) 2; trap", 2, "to 1; out 1, if 1 3 2; trap; copy 0 2, copy 2 1, copy 1 0, to 1"},
		{15, "to 1(1 2); with 12 13, sub 14 12 13, if 14 1(14 13) 2; end 12 13 14", 3, "to 1; sub 3 1 2, if 3 3 2; copy 0 1, copy 1 2, copy 2 3, end; copy 1 3, to 1"},
		// several ways, each with its part
		{13, "if 1 1(2) 1(3); with 12, out 12, trap", 3, "if 1 2 3; out 1, trap; copy 1 2, to 1; copy 1 3, to 1"},
		{13, "table 1 1(2) 2 1(3) 1(2); with 12, out 12, trap; trap", 3, "table 1 3 2 4 5; out 1, trap; trap; copy 1 2, to 1; copy 1 3, to 1; copy 1 2, to 1"},
		// several ways and Args: an edge that is not critical; one that is needless may go
		{13, "if 1 1(2) 2; with 12, out 12, trap; trap", 2, ""},
		{13, "if 1 1 2(2); trap; with 12, out 12, trap", 2, ""},
		{12, "if 1 1 2; out 2, trap; trap", 2, "if 1 1 2; out 2, trap; trap"},
		{14, "table 1 1(2) 2(2) 2(3); with 12, out 12, trap; with 13, trap", 3, ""},
		{13, "to 1(1); with 12, if 12 2 3; trap; out 12, trap", 1, "to 1; if 1 2 3; trap; out 1, trap"},
	})
}

// told is an ssa of one part that tells so many values, those that are there at first, and then as many as are made: all are there at once.
func told(first []int, made int) impl.Ssa {
	s := impl.Ssa{Values: 12 + made, Parts: []impl.Part{{Go: impl.GoTrap}}}
	p := &s.Parts[0]
	for i := range made {
		p.Code = append(p.Code, impl.Flat{Op: impl.FxConst, Dst: 12 + i, N: i})
	}
	for _, value := range append(first, places(12 + made)[12:]...) {
		p.Code = append(p.Code, impl.Flat{Op: impl.FxOut, A: value})
	}
	return s
}

// Promise 13: just as many names as there are, and one more; whatever the values are.
func TestBackNames(t *testing.T) {
	for _, first := range [][]int{nil, {0}, {8}, {0, 1, 2, 3}, {8, 9, 10, 11}, places(6), places(12)[6:], places(7), places(12)[5:], places(8), places(12)} {
		for made := range 20 {
			s := told(slices.Clone(first), made)
			all := len(first) + made
			x := checkBack(t, s)
			if names, ok := impl.NamesNeeded(s); names != all || !ok {
				t.Error(first, made, names, ok)
			}
			if _, ok := impl.BackFlow(s); ok != (all <= 6) {
				t.Error(first, made, ok)
			}
			x.checkRun(t, risingState(), 1)
		}
	}
	// as many that are handed on
	for many := range 13 {
		s := impl.Ssa{Values: 12 + many, Parts: []impl.Part{{Go: impl.GoTo, Next: []int{1}, Args: [][]int{make([]int, many)}}, {Params: places(12 + many)[12:], Go: impl.GoTrap}}}
		x := checkBack(t, s)
		if x.many != many || x.why == "" != (many <= 6) {
			t.Error(many, x.many, x.why)
		}
	}
	// as many as there can be
	if names, ok := impl.NamesNeeded(crowded()); names != 250 || !ok {
		t.Error(names, ok)
	}
	checkBack(t, crowded())
}

// withOuts gives a part so many steps more, ahead of its own.
func withOuts(s impl.Ssa, at int, many int, value int) impl.Ssa {
	out := copySsa(s)
	out.Parts[at].Code = slices.Concat(slices.Repeat([]impl.Flat{{Op: impl.FxOut, A: value}}, many), out.Parts[at].Code)
	return out
}

// Promise 13: blocks that come to 60 steps, and to more: by what is done ahead of the first part, and by what is done behind each.
func TestBackLong(t *testing.T) {
	for _, c := range []struct {
		text  string
		at    int // the part that is made long
		value int // what it tells
		more  int // how many steps it has beside these
	}{
		{"trap", 0, 1, 0},
		{"trap", 0, 5, 1},
		{"trap", 0, 9, 1},
		{"end 0 1 2", 0, 1, 6},
		{"end 8 9 10", 0, 8, 6},
		{"end 2 1 0", 0, 2, 7},
		{"end 3 1 2", 0, 1, 1},
		{"to 1; trap", 1, 5, 0},
		{"to 1(1); with 12, trap", 0, 1, 0},
		{"to 1(1); with 12, out 1, out 12, trap", 0, 1, 1},
		{"to 1(1); with 12, out 1, out 12, trap", 1, 12, 2},
		{"to 1(1 2); with 12 13, if 12 2 3; to 1(13 12); trap", 2, 12, 3},
		{"to 1(1 2); with 12 13, if 12 2 3; to 1(13 12); trap", 3, 12, 0},
		{"to 1(1 2); with 12 13, if 12 1(13 12) 2; end 12 12 13", 1, 12, 0},
		{"to 1(1 2); with 12 13, if 12 1(13 12) 2; end 12 12 13", 2, 12, 1},
		{"table 1 1 2 1; trap; trap", 0, 1, 0},
	} {
		for many := 52; many <= 60; many++ {
			s := withOuts(ssa(14, c.text), c.at, many, c.value)
			if len(s.Parts[c.at].Code) > 60 {
				continue
			}
			x := checkBack(t, s)
			f, ok := impl.BackFlow(s)
			if ok != (many+c.more <= 60) || ok && len(f[c.at].Code) != many+c.more {
				t.Errorf("%s, with %d: %v %v", c.text, many, f, ok)
			}
			for fuel := range 6 {
				x.checkRun(t, risingState(), fuel)
			}
		}
	}
}

// handOver is a loop whose parts hand on so many values, told by where they come from; it goes round as often as local 5 tells, and tells all of them each time.
func handOver(from []int) impl.Ssa {
	many := len(from)
	count, less, one := 12+many, 13+many, 14+many
	s := impl.Ssa{Values: 15 + many, Parts: []impl.Part{
		{Code: []impl.Flat{{Op: impl.FxConst, Dst: one, N: 1}}, Go: impl.GoTo, Next: []int{1}, Args: [][]int{append(places(many + 1)[1:], 5)}},
		{Params: append(places(12 + many)[12:], count), Go: impl.GoIf, Test: count, Next: []int{2, 3}, Args: [][]int{nil, nil}},
		{Code: []impl.Flat{{Op: impl.FxTwo, Do: impl.WSub, Dst: less, A: count, B: one}}, Go: impl.GoTo, Next: []int{1}, Args: [][]int{nil}},
		{Go: impl.GoEnd, Args: [][]int{{12, 12 + many/2, 11 + many}}},
	}}
	for i, k := range from {
		s.Parts[1].Code = append(s.Parts[1].Code, impl.Flat{Op: impl.FxOut, A: 12 + i})
		s.Parts[2].Args[0] = append(s.Parts[2].Args[0], 12+k)
	}
	s.Parts[2].Args[0] = append(s.Parts[2].Args[0], less)
	return s
}

// Promise 13: all ways to hand up to four values on to the Params they came from.
func TestBackHandsAll(t *testing.T) {
	rounds, flows := 0, 0
	for many := 1; many <= 4; many++ {
		from := make([]int, many)
		for {
			s := handOver(from)
			x := checkBack(t, s)
			if x.why != "" || x.many != many+2 {
				t.Fatal(from, x.why, x.many)
			}
			flows++
			rounds += x.rounds
			for fuel := range 16 {
				x.checkRun(t, risingState(), fuel)
			}
			if how := x.checkRun(t, risingState(), 20); how != impl.OutEnd {
				t.Fatal(from, how)
			}
			at := 0
			for ; at < many && from[at] == many-1; at++ {
				from[at] = 0
			}
			if at == many {
				break
			}
			from[at]++
		}
	}
	if flows != 1+4+27+256 || rounds < 100 {
		t.Error(flows, rounds)
	}
	if x := checkBack(t, handOver(places(5))); x.why != "names" {
		t.Error(x.why)
	}
}

// tallyBack counts what grown ones have.
type tallyBack struct {
	whys   map[string]int
	names  [7]int // flows by how many names they need
	splits int    // flows of ssas with edges that are split
	rounds int    // rings
	first  int    // flows of which some values are there at first
	hows   [4]int // runs of flows
}

func (c *tallyBack) count(x backed) {
	if c.whys == nil {
		c.whys = map[string]int{}
	}
	c.whys[x.why]++
	if x.why != "" {
		return
	}
	c.names[x.many]++
	c.rounds += x.rounds
	if len(x.edges) > 0 {
		c.splits++
	}
	if x.ahead > 0 {
		c.first++
	}
}

func (c *tallyBack) run(t *testing.T, x backed, state impl.State, fuels []int) {
	t.Helper()
	for _, fuel := range fuels {
		c.hows[x.checkRun(t, state, fuel)]++
	}
}

// check looks whether there were some of each; of the reasons why there is no flow those that are told.
func (c *tallyBack) check(t *testing.T, least int, whys ...string) {
	t.Helper()
	for _, why := range append(whys, "") {
		if c.whys[why] < least {
			t.Errorf("so few of %q: %+v", why, *c)
		}
	}
	if slices.Min(c.names[3:]) < least || min(c.splits, c.rounds, c.first) < least || slices.Min(c.hows[1:]) < least {
		t.Errorf("so few of: %+v", *c)
	}
}

// checkMade is promise 13 of the ssa of a flow, trimmed and not trimmed: with as many Params as there are names the latter needs too many.
func (c *tallyBack) checkMade(t *testing.T, f []impl.Block, state impl.State, pick func(int) int) {
	t.Helper()
	made, ok := impl.MakeSsa(f)
	if !ok {
		return
	}
	x := checkBack(t, made)
	if x.why == "" || x.why != "parts" && x.many < 12 {
		t.Fatalf("BackFlow(%v): %v", made, x)
	}
	c.run(t, x, state, someFuels(pick))
	trimmed, _, _ := impl.TrimParams(made)
	x = checkBack(t, trimmed)
	c.count(x)
	c.run(t, x, state, someFuels(pick))
	if how := x.checkRun(t, state, 500); how != 1 && how != 2 {
		return
	}
	// and back to the flow that it was made of
	want, wantHow, _, _ := impl.RunFlow(f, state, 500)
	got, how, _, _ := impl.RunFlow(x.f, state, 500)
	checkSameKept(t, x.f, got, how, want, wantHow)
}

// Promise 13: ssas of grown flows.
func TestBackMixedFlows(t *testing.T) {
	pick := someSource()
	var c tallyBack
	for range 600 {
		c.checkMade(t, grownFlow(pick), grownState(pick), pick)
	}
	c.check(t, 10, "parts", "names")
}

// Promise 13: ssas of flows of code, joined and as they are.
func TestBackOfCode(t *testing.T) {
	pick := someSource()
	var c tallyBack
	for range 600 {
		lifted, ok := impl.LiftSteps(grownCode(pick))
		if !ok {
			continue
		}
		joined, _ := impl.JoinFlow(lifted)
		state := grownState(pick)
		c.checkMade(t, lifted, state, pick)
		c.checkMade(t, joined, state, pick)
	}
	c.check(t, 10, "parts", "names")
}

// Promise 13: code told by its words.
func TestBackOfWords(t *testing.T) {
	for _, c := range []struct {
		text   string
		names  int
		copies int
	}{
		{"", 3, 6},
		{"get 3, out", 4, 8},
		{"get 0, get 1, set 0, set 1, get 0, out, get 1, out", 4, 11},
		{"loop, get 0, out, get 0, const 1, sub, set 0, get 0, brif 0, end, get 1, out", 5, 14},
		{"get 0, if, const 5, set 1, else, const 6, set 2, end, get 1, get 2, add, out", 5, 17},
		{"loop, get 0, out, get 1, set 2, get 0, set 1, get 2, set 0, get 0, brif 0, end, get 1, out", 4, 17},
		{"get 3, get 4, get 5, get 6, add, add, add, out", 7, 0},
	} {
		f, _ := impl.LiftSteps(code(c.text))
		f, _ = impl.JoinFlow(f)
		made, ok := impl.MakeSsa(f)
		if !ok {
			t.Fatal(c.text)
		}
		trimmed, _, _ := impl.TrimParams(made)
		x := checkBack(t, trimmed)
		n, _ := impl.CopiesIn(x.f)
		if x.many != c.names || n != c.copies || x.why == "" != (c.names < 7) {
			t.Errorf("%s: %d names, %d copies, %s", c.text, x.many, n, x.why)
		}
		for a := range 5 {
			x.checkRun(t, stateOf(a, 2), 300)
		}
	}
}

// lean lets an ssa use but few of the values that are there at first.
func lean(s impl.Ssa, pick func(int) int) impl.Ssa {
	few := []int{pick(8), pick(12), pick(8), pick(12)}
	return renamedUses(s, func(value int) int {
		if value < 12 {
			return few[value%len(few)]
		}
		return value
	})
}

// renamedUses tells an ssa in which what is told is used instead of each value.
func renamedUses(s impl.Ssa, told func(int) int) impl.Ssa {
	out := copySsa(s)
	for at := range out.Parts {
		p := &out.Parts[at]
		for i := range p.Code {
			uses, _ := usedByHand(p.Code[i])
			for k, value := range uses {
				*fieldsOf(&p.Code[i])[2+k] = told(value)
			}
		}
		if p.Go == impl.GoIf || p.Go == impl.GoTable {
			p.Test = told(p.Test)
		}
		for i := range p.Args {
			p.Args[i] = toldBy(p.Args[i], told)
		}
	}
	return out
}

// Promise 13: grown ssas whose parts have any Params; and such as use few of the values that are there at first.
func TestBackMixed(t *testing.T) {
	pick := someSource()
	var c, few tallyBack
	for range 1500 {
		s, state := grownSsa(pick), grownState(pick)
		x := checkBack(t, s)
		c.count(x)
		c.run(t, x, state, someFuels(pick))
		thin, _, _ := impl.DropUnused(lean(s, pick))
		if pick(2) == 0 {
			thin, _, _ = impl.TrimParams(thin)
		}
		x = checkBack(t, thin)
		few.count(x)
		few.run(t, x, state, someFuels(pick))
	}
	c.check(t, 10, "parts", "names", "ways")
	few.check(t, 20, "parts", "names", "ways")
	if slices.Min(few.names[:]) < 2 {
		t.Errorf("so few of: %+v", few)
	}
}

// Promise 13: grown ssas with many loops.
func TestBackLooped(t *testing.T) {
	pick := someSource()
	var c tallyBack
	for range 1500 {
		s, state := grownLooped(pick), grownState(pick)
		if pick(4) > 0 {
			s, _, _ = impl.DropUnused(lean(s, pick))
		}
		x := checkBack(t, s)
		c.count(x)
		c.run(t, x, state, someFuels(pick))
	}
	c.check(t, 10, "parts", "names", "ways")
}

// Promise 13: steps that are FxCopy, in several blocks, also in those that are not come to.
func TestBackCopies(t *testing.T) {
	for _, c := range []struct {
		text string
		many int
	}{
		{"end", 0}, {"trap", 0}, {"to 0", 0}, {"to 1; to 2; end", 0},
		{"copy 0 0, end", 1}, {"copy 11 0, copy 0 11, end", 2}, {"copy 3 4, trap", 1},
		{"const 2 2, add 2 2 2, load 2 2, store 2 2, out 2, end", 0},
		{"const 2 2, copy 1 2, add 2 2 2, copy 2 2, load 2 2, store 2 2, copy 1 1, out 2, end", 3},
		{"copy 1 2, if 0 1 2; copy 2 3, to 2; copy 3 4, copy 4 5, end", 4},
		{"copy 1 2, end; copy 2 3, copy 2 3, to 0; trap; copy 1 1, to 1", 4},
	} {
		f := flow(c.text)
		if n := checkCopies(t, f); n != c.many {
			t.Errorf("CopiesIn(%s): %d, not %d", c.text, n, c.many)
		}
	}
	// as many as there can be
	f := slices.Repeat([]impl.Block{{Code: slices.Repeat(copies("1<2"), 60), Go: impl.GoTrap}}, 64)
	if n := checkCopies(t, f); n != 60*64 {
		t.Error(n)
	}
	pick := someSource()
	for range 500 {
		checkCopies(t, grownFlow(pick))
	}
}

// checkNoCopies looks for the zero answer.
func checkNoCopies(t *testing.T, f []impl.Block) {
	t.Helper()
	before := copyFlow(f)
	if n, ok := impl.CopiesIn(f); n != 0 || ok {
		t.Errorf("CopiesIn(%v): %d %v", f, n, ok)
	}
	if !sameFlow(f, before) {
		t.Errorf("%v was %v", f, before)
	}
}

// Promise 19: flows that are not good.
func TestBackCopiesWrong(t *testing.T) {
	for _, f := range [][]impl.Block{
		nil, {}, {{}}, flow("copy 1 2, to 1"), flow("copy 12 0, end"), flow("copy 0 12, end"), flow("copy -1 0, end"), flow("copy 0 -1, end"), flow("copy 1 2, end; to 2"), flow("copy 1 2, end; const 0 65536, end"),
		{{Code: []impl.Flat{{Op: 2, Do: 4}}, Go: 3}}, {{Code: []impl.Flat{{Op: 2, B: 1}}, Go: 3}}, {{Code: []impl.Flat{{Op: 2, N: 1}}, Go: 3}}, {{Code: []impl.Flat{{Op: 7}}, Go: 3}},
		{{Code: copies("1<2"), Go: 3, Test: 1}}, {{Code: copies("1<2"), Go: 3, Next: []int{0}}}, {{Code: copies("1<2")}}, {{Code: slices.Repeat(copies("1<2"), 61), Go: 3}},
		slices.Repeat(flow("copy 1 2, end"), 65),
	} {
		checkNoCopies(t, f)
	}
	pick := someSource()
	some := []int{math.MinInt, -1, 6, 12, 64, 65536, math.MaxInt}
	wrong := 0
	for range 2000 {
		f := grownFlow(pick)
		b := &f[pick(len(f))]
		fields := []*int{&b.Go, &b.Test}
		for i := range b.Code {
			fields = append(append(fields, &b.Code[i].Op), fieldsOf(&b.Code[i])...)
		}
		*fields[pick(len(fields))] = some[pick(len(some))]
		if goodFlowByHand(f) {
			checkCopies(t, f)
			continue
		}
		wrong++
		checkNoCopies(t, f)
	}
	if wrong < 1000 {
		t.Error("so few are wrong: ", wrong)
	}
}

// Promise 19: ssas that are not good.
func TestBackNotGood(t *testing.T) {
	for _, s := range wrongSsas() {
		checkNoBack(t, s)
	}
	s := ssa(13, "to 1; const 12 1, if 0 1 2; end 0 1 2")
	for _, values := range []int{math.MinInt, -1, 0, 11, 12, 251, math.MaxInt} {
		s.Values = values
		checkNoBack(t, s)
	}
}

// Promises 13 and 19: grown ssas of which one thing became another.
func TestBackAnything(t *testing.T) {
	pick := someSource()
	wrong, good, flows := 0, 0, 0
	for range 2500 {
		s := grownSsa(pick)
		if pick(2) == 0 {
			s = lean(s, pick)
		}
		spoilSsa(&s, pick)
		if !goodSsaByHand(s) {
			wrong++
			checkNoBack(t, s)
			continue
		}
		good++
		if how := checkBack(t, s).checkRun(t, stateOf(1, 2), 30); how != 0 {
			flows++
		}
	}
	if wrong < 1000 || good < 200 || flows < 50 {
		t.Errorf("so few of: %d wrong, %d good, %d flows", wrong, good, flows)
	}
}

// Promise 19: nil lists and empty ones are alike.
func TestBackOfNothing(t *testing.T) {
	var flats [3]impl.Flat
	for _, none := range [][]int{nil, {}, places(3)[:0]} {
		for _, other := range [][]int{nil, {}, places(3)[:0]} {
			checkLay(t, none, other, 3)
			checkLay(t, none, other, 12)
			checkLay(t, none, places(1), 3)
		}
		for _, steps := range [][]impl.Flat{nil, {}, flats[:0]} {
			if n := checkCopies(t, []impl.Block{{Code: steps, Go: impl.GoEnd, Next: none}}); n != 0 {
				t.Error(n)
			}
			for _, no := range [][][]int{nil, {}, lists("5")[:0]} {
				x := checkBack(t, impl.Ssa{Values: 13, Parts: []impl.Part{
					{Params: none, Code: steps, Go: impl.GoTo, Next: []int{1}, Args: [][]int{none}},
					{Params: none, Code: []impl.Flat{{Op: impl.FxConst, Dst: 12, N: 4}}, Go: impl.GoTable, Next: []int{1, 2, 3}, Args: [][]int{none, none, none}},
					{Params: none, Code: steps, Go: impl.GoEnd, Next: none, Args: [][]int{{1, 2, 9}}},
					{Params: none, Code: steps, Go: impl.GoTrap, Next: none, Args: no},
				}})
				if x.why != "" || x.many != 5 || len(x.edges) != 0 {
					t.Error(x)
				}
				for a := range 4 {
					x.checkRun(t, stateOf(a, 2), 5)
				}
			}
		}
	}
}

// sharedEdges is an ssa whose lists lie in one memory, one right behind the other, with something behind them; edges of it are split.
func sharedEdges() (impl.Ssa, []impl.Part, []impl.Flat, []int) {
	flats := append(part("out 1, sub 14 12 13, out 14, copy 15 14, trap").Code, impl.Flat{Op: 99, A: -3}, impl.Flat{Op: 1, Dst: 17, N: 9})
	numbers := []int{1, 1, 2, 12, 13, 13, 14, 15, 12, 12, -5, 77}
	args := [][]int{numbers[1:3], numbers[5:7], numbers[3:3], numbers[7:10], {88}}
	parts := []impl.Part{
		{Code: flats[:1], Go: impl.GoTo, Next: numbers[:1], Args: args[:1]},
		{Params: numbers[3:5], Code: flats[1:3], Go: impl.GoIf, Test: 14, Next: numbers[1:3], Args: args[1:3]},
		{Code: flats[3:4], Go: impl.GoEnd, Next: numbers[10:10], Args: args[3:4]},
		{Go: 88, Next: numbers[10:]},
	}
	return impl.Ssa{Values: 17, Parts: parts[:3]}, parts, flats, numbers
}

// Promise 19: no list that is handed in is changed, nor what lies behind it; and that tells nothing.
func TestBackListsStay(t *testing.T) {
	s, parts, flats, numbers := sharedEdges()
	before := copySsa(impl.Ssa{Parts: parts})
	flatsBefore, numbersBefore := slices.Clone(flats), slices.Clone(numbers)
	stays := func() bool {
		return sameSsa(impl.Ssa{Parts: parts}, before) && slices.Equal(flats, flatsBefore) && slices.Equal(numbers, numbersBefore)
	}
	x := checkBack(t, s)
	if want := ssa(17, "out 1, to 1(1 2); with 12 13, sub 14 12 13, out 14, if 14 3 2; copy 15 14, end 15 12 12; to 1(13 14)"); !sameSsa(x.split, want) || x.why != "" {
		t.Error(x.split, x.why)
	}
	for fuel := range 8 {
		x.checkRun(t, risingState(), fuel)
	}
	for many := range len(parts) + 1 {
		if many != 3 {
			checkNoBack(t, impl.Ssa{Values: 17, Parts: parts[:many]})
		}
	}
	checkNoBack(t, impl.Ssa{Values: 15, Parts: s.Parts})
	if !stays() {
		t.Error(parts, flats, numbers)
	}
	// names that lie in one memory, one list over the other, and with more behind them
	memory := []int{0, 1, 2, 3, 0, 4, 5, -7, 12, 9}
	memoryBefore := slices.Clone(memory)
	for _, c := range [][4]int{{0, 3, 1, 4}, {1, 4, 0, 3}, {0, 4, 0, 4}, {1, 5, 2, 6}, {1, 7, 1, 7}, {0, 5, 0, 5}, {0, 8, 0, 8}, {7, 9, 7, 9}, {3, 7, 3, 8}} {
		checkLay(t, memory[c[0]:c[1]], memory[c[2]:c[3]], 9)
		checkLay(t, memory[c[0]:c[1]:c[1]], memory[c[2]:c[3]:c[3]], 9)
	}
	if l, _ := checkLay(t, memory[1:5], memory[2:6], 9); !slices.Equal(l, copies("4<0 0<3 3<2 2<1")) || !slices.Equal(memory, memoryBefore) {
		t.Error(l, memory)
	}
	blocks, steps, next := mixedMemory()
	flowBefore, stepsBefore, nextBefore := copyFlow(blocks), slices.Clone(steps), slices.Clone(next)
	checkCopies(t, blocks[:5])
	checkNoCopies(t, blocks)
	if !sameFlow(blocks, flowBefore) || !slices.Equal(steps, stepsBefore) || !slices.Equal(next, nextBefore) {
		t.Error(blocks, steps, next)
	}
}

// Promise 19: what is told shares no memory with what was handed in, nor do two lists of one answer share any, nor two answers.
func TestBackAnswersAreNew(t *testing.T) {
	shared, parts, flats, numbers := sharedEdges()
	before := copySsa(impl.Ssa{Parts: parts})
	flatsBefore, numbersBefore := slices.Clone(flats), slices.Clone(numbers)
	other, _, _, _ := sharedSsa()
	for _, s := range []impl.Ssa{shared, other, branching(3, 4), ssa(12, "end 0 1 2"), ssa(12, "trap"), handOver([]int{1, 2, 0}), ssa(14, "to 1(3 3); with 12 13, if 13 1(13 13) 2; end 13 13 3")} {
		kept := copySsa(s)
		stays := func() bool {
			return sameSsa(s, kept) && sameSsa(impl.Ssa{Parts: parts}, before) && slices.Equal(flats, flatsBefore) && slices.Equal(numbers, numbersBefore)
		}
		ask := func() impl.Ssa { got, _, _ := impl.SplitEdges(s); return got }
		checkSsaIsNew(t, ask, stays)
		checkNothingBehind(t, ask())
		askFlow := func() []impl.Block { got, _ := impl.BackFlow(s); return got }
		if len(ask().Parts) == 0 || len(askFlow()) == 0 && !slices.ContainsFunc(ask().Parts, isMany) {
			t.Error(s)
		}
		checkFlowIsNew(t, askFlow, stays)
		for _, b := range askFlow() {
			if slices.ContainsFunc(b.Code[:cap(b.Code)][len(b.Code):], func(x impl.Flat) bool { return x != impl.Flat{} }) {
				t.Error("behind the Code: ", b.Code[:cap(b.Code)])
			}
		}
	}
	from, to := []int{0, 1, 2, 0}, []int{1, 0, 2, 3}
	want := copies("3<0 9<0 0<1 1<9")
	first, _ := impl.LayMoves(from, to, 9)
	second, _ := impl.LayMoves(from, to, 9)
	spoilFlats(first)
	if third, _ := impl.LayMoves(from, to, 9); !slices.Equal(second, want) || !slices.Equal(third, want) || !slices.Equal(from, []int{0, 1, 2, 0}) || !slices.Equal(to, []int{1, 0, 2, 3}) {
		t.Error(second, third, from, to)
	}
}

// Promises 13 and 19: the same answer on many runs.
func TestBackEachTime(t *testing.T) {
	pick := someSource()
	for range 20 {
		s := lean(grownLooped(pick), pick)
		f, is := impl.BackFlow(s)
		names, _ := impl.NamesNeeded(s)
		for range 10 {
			if got, ok := impl.BackFlow(s); !sameFlow(got, f) || ok != is {
				t.Fatalf("BackFlow(%v): %v %v, not %v %v", s, got, ok, f, is)
			}
			if n, _ := impl.NamesNeeded(s); n != names {
				t.Fatalf("NamesNeeded(%v): %d, not %d", s, n, names)
			}
		}
	}
}
