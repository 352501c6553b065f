package tests

import (
	"math"
	"slices"
	"strconv"
	"strings"
	"testing"

	"loop.example/g00373/impl"
)

// code tells the steps of words, a comma between two steps.
func code(text string) []impl.Step {
	var out []impl.Step
	words := strings.Fields("none const get set add sub mul div less eq load store out drop trap block loop if else end br brif table")
	for part := range strings.SplitSeq(text, ",") {
		fields := strings.Fields(part)
		if len(fields) == 0 {
			continue
		}
		var numbers []int
		for _, word := range fields[1:] {
			n, err := strconv.Atoi(word)
			if err != nil {
				panic(err)
			}
			numbers = append(numbers, n)
		}
		x := impl.Step{Op: slices.Index(words, fields[0])}
		if last := len(numbers) - 1; last >= 0 {
			x.N = numbers[last]
			x.Table = numbers[:last:last]
		}
		out = append(out, x)
	}
	return out
}

// many tells a word so often, with commas behind.
func many(word string, often int) string { return strings.Repeat(word+",", often) }

// needsByHand tells how many words each Op takes off, and puts on.
func needsByHand(op int) (int, int) {
	const offs = "_0012222221211000100011"
	const ons = "_1101111111000000000000"
	return int(offs[op] - '0'), int(ons[op] - '0')
}

// handWalk goes through good code part by part, each part counting its own words alone.
type handWalk struct {
	l       []impl.Step
	heights []int
	reaches []bool
	code    int
	at      int
}

// tell keeps the first fault alone.
func (w *handWalk) tell(code int, at int) {
	if w.code == 0 {
		w.code, w.at = code, at
	}
}

// part goes on up to the part's WElse, its WEnd, or the end of all, and tells that place.
func (w *handWalk) part(at int, base int, dead bool) int {
	own := 0
	for ; ; at++ {
		w.heights = append(w.heights, base+own)
		if at < len(w.l) {
			w.reaches = append(w.reaches, !dead)
		}
		if at == len(w.l) || w.l[at].Op == 18 || w.l[at].Op == 19 {
			if own > 0 {
				w.tell(3, at)
			}
			return at
		}
		op := w.l[at].Op
		off, on := needsByHand(op)
		if own < off && !dead {
			w.tell(2, at)
		}
		own = max(own, off) - off + on
		if base+own > 4 {
			w.tell(4, at)
		}
		if op == 14 || op == 20 || op == 22 {
			own, dead = 0, true
		}
		if opensByHand(w.l[at]) {
			at = w.part(at+1, base+own, dead)
			if w.l[at].Op == 18 {
				at = w.part(at+1, base+own, dead)
			}
		}
	}
}

// validByHand tells what going through code by hand tells; of code that is not good but that.
func validByHand(l []impl.Step) handWalk {
	w := handWalk{l: l}
	if !goodCodeByHand(l) {
		w.tell(1, 0)
		return w
	}
	w.part(0, 0, false)
	return w
}

// staysByHand tells for each step whether CutDead keeps it.
func staysByHand(w handWalk) []bool {
	out := slices.Clone(w.reaches)
	for at, x := range w.l {
		if x.Op == 18 || x.Op == 19 {
			out[at] = w.reaches[aroundByHand(w.l, at)[0]]
		}
	}
	return out
}

// spot is where a walk may be: a place, how high the stack is, and at which heights those began that are open, a byte each.
type spot struct {
	at     int
	height int
	begun  string
}

func (s spot) base() int {
	if s.begun == "" {
		return 0
	}
	return int(s.begun[len(s.begun)-1])
}

func (s spot) next(height int) spot { return spot{s.at + 1, height, s.begun} }

// within goes on in one that is opened.
func (s spot) within(at int, height int) spot {
	return spot{at, height, s.begun + string([]byte{byte(height)})}
}

// behind goes on behind the innermost one's WEnd.
func (s spot) behind(at int, height int) spot {
	return spot{at, height, s.begun[:len(s.begun)-1]}
}

// jump goes on where a WBr of this depth leads.
func (s spot) jump(l []impl.Step, depth int) spot {
	to := spot{at: targetByHand(l, s.at, depth)}
	if depth == len(s.begun) {
		return to
	}
	keep := len(s.begun) - 1 - depth
	to.height = int(s.begun[keep])
	to.begun = s.begun[:keep]
	if l[aroundByHand(l, s.at)[depth]].Op == 16 {
		to.begun = s.begun[:keep+1]
	}
	return to
}

// elseByHand tells the place behind the WElse of the WIf at a place; -1 if it has none.
func elseByHand(l []impl.Step, at int) int {
	for i, x := range l {
		if x.Op == 18 && aroundByHand(l, i)[0] == at {
			return i + 1
		}
	}
	return -1
}

// waysFrom tells all spots where a walk may go on.
func waysFrom(l []impl.Step, s spot) []spot {
	x := l[s.at]
	off, on, _ := impl.NeedsOf(x)
	height := s.height - off + on
	switch x.Op {
	case 14:
		return nil
	case 15, 16:
		return []spot{s.within(s.at+1, height)}
	case 17:
		other := spot{endByHand(l, s.at) + 1, height, s.begun}
		if at := elseByHand(l, s.at); at >= 0 {
			other = s.within(at, height)
		}
		return []spot{s.within(s.at+1, height), other}
	case 18:
		return []spot{s.behind(endByHand(l, aroundByHand(l, s.at)[0])+1, height)}
	case 19:
		return []spot{s.behind(s.at+1, height)}
	case 20:
		return []spot{s.jump(l, x.N)}
	case 21:
		return []spot{s.jump(l, x.N), s.next(height)}
	case 22:
		var out []spot
		for _, depth := range append(slices.Clone(x.Table), x.N) {
			out = append(out, s.jump(l, depth))
		}
		return out
	}
	return []spot{s.next(height)}
}

// walkAll takes every way through valid code, and holds each step against what is told of it; it tells all spots.
func walkAll(t *testing.T, l []impl.Step) []spot {
	t.Helper()
	heights, _ := impl.HeightsOf(l)
	reaches, _ := impl.ReachesOf(l)
	seen := []spot{{}}
	for i := 0; i < len(seen); i++ {
		s := seen[i]
		if s.height != heights[s.at] {
			t.Fatalf("%v: the step at %d finds the height %d, not %d", l, s.at, s.height, heights[s.at])
		}
		if s.at == len(l) {
			continue
		}
		if !reaches[s.at] {
			t.Fatalf("%v: the step at %d is come to, though it be dead", l, s.at)
		}
		off, _, ok := impl.NeedsOf(l[s.at])
		if s.height-s.base() < off || !ok {
			t.Fatalf("%v: the step at %d finds %d words", l, s.at, s.height-s.base())
		}
		for _, to := range waysFrom(l, s) {
			if !slices.Contains(seen, to) {
				seen = append(seen, to)
			}
		}
	}
	return seen
}

// checkCut looks at what CutDead tells of valid code: it is valid, has nothing dead but WElse and WEnd, is the same when it is cut again, and goes the same ways.
func checkCut(t *testing.T, w handWalk) {
	t.Helper()
	cut, ok := impl.CutDead(w.l)
	var want []impl.Step
	var newPlaces []int
	for at, stays := range staysByHand(w) {
		newPlaces = append(newPlaces, len(want))
		if stays {
			want = append(want, w.l[at])
		}
	}
	newPlaces = append(newPlaces, len(want))
	if !sameSteps(cut, want) || !ok {
		t.Fatalf("CutDead(%v): %v %v, not %v", w.l, cut, ok, want)
	}
	if code, at, ok := impl.ValidSteps(cut); code != 0 || at != 0 || !ok {
		t.Fatalf("CutDead(%v): %v is not valid: %d at %d", w.l, cut, code, at)
	}
	if again, ok := impl.CutDead(cut); !sameSteps(again, cut) || !ok {
		t.Fatalf("CutDead(%v): %v %v", cut, again, ok)
	}
	reaches, _ := impl.ReachesOf(cut)
	for at, x := range cut {
		if !reaches[at] && x.Op != 18 && x.Op != 19 {
			t.Fatalf("CutDead(%v): %v has a dead step at %d", w.l, cut, at)
		}
	}
	renamed := func(s spot) spot { return spot{newPlaces[s.at], s.height, s.begun} }
	old := walkAll(t, w.l)
	if got := walkAll(t, cut); len(got) != len(old) {
		t.Fatalf("CutDead(%v): %d spots, not %d", w.l, len(got), len(old))
	}
	for _, s := range old {
		if s.at == len(w.l) {
			continue
		}
		ways := waysFrom(w.l, s)
		for i := range ways {
			ways[i] = renamed(ways[i])
		}
		if got := waysFrom(cut, renamed(s)); !slices.Equal(got, ways) {
			t.Fatalf("CutDead(%v): from %d on: %v, not %v", w.l, s.at, got, ways)
		}
	}
}

// checkNotValid looks for the code, its place, and the zero answer everywhere else, and whether the code stays as it was.
func checkNotValid(t *testing.T, l []impl.Step, wantCode int, wantAt int) {
	t.Helper()
	before := copySteps(l)
	if code, at, ok := impl.ValidSteps(l); code != wantCode || at != wantAt || ok {
		t.Errorf("ValidSteps(%v): %d %d %v, not %d %d", l, code, at, ok, wantCode, wantAt)
	}
	if got, ok := impl.HeightsOf(l); len(got) != 0 || ok {
		t.Errorf("HeightsOf(%v): %v %v", l, got, ok)
	}
	if got, ok := impl.ReachesOf(l); len(got) != 0 || ok {
		t.Errorf("ReachesOf(%v): %v %v", l, got, ok)
	}
	if got, ok := impl.MostHigh(l); got != 0 || ok {
		t.Errorf("MostHigh(%v): %v %v", l, got, ok)
	}
	if got, ok := impl.CutDead(l); len(got) != 0 || ok {
		t.Errorf("CutDead(%v): %v %v", l, got, ok)
	}
	if !sameSteps(l, before) {
		t.Errorf("%v was %v", l, before)
	}
}

// checkValid holds all that is told of code against what is worked out by hand; it tells whether the code is valid.
func checkValid(t *testing.T, l []impl.Step) bool {
	t.Helper()
	w := validByHand(l)
	if w.code != 0 {
		checkNotValid(t, l, w.code, w.at)
		return false
	}
	before := copySteps(l)
	if code, at, ok := impl.ValidSteps(l); code != 0 || at != 0 || !ok {
		t.Fatalf("ValidSteps(%v): %d %d %v", l, code, at, ok)
	}
	if got, ok := impl.HeightsOf(l); !slices.Equal(got, w.heights) || !ok {
		t.Fatalf("HeightsOf(%v): %v %v, not %v", l, got, ok, w.heights)
	}
	if got, ok := impl.ReachesOf(l); !slices.Equal(got, w.reaches) || !ok {
		t.Fatalf("ReachesOf(%v): %v %v, not %v", l, got, ok, w.reaches)
	}
	if got, ok := impl.MostHigh(l); got != slices.Max(w.heights) || !ok {
		t.Fatalf("MostHigh(%v): %v %v", l, got, ok)
	}
	walkAll(t, l)
	checkCut(t, w)
	if !sameSteps(l, before) {
		t.Errorf("%v was %v", l, before)
	}
	return true
}

// Promise 4: the constants are as the document has them.
func TestValidConstants(t *testing.T) {
	for i, code := range []int{impl.VdOk, impl.VdShape, impl.VdStack, impl.VdRest, impl.VdDeep, impl.MaxStack} {
		if want := min(i, 4); code != want {
			t.Error(code, want)
		}
	}
}

// Promise 4: each Op takes and puts as many words as the document says.
func TestValidNeeds(t *testing.T) {
	for _, c := range []struct {
		off   int
		on    int
		steps string
	}{
		{0, 1, "const 0, const 5, const 65535, get 0, get 7"},
		{1, 0, "set 0, set 7, out, drop, if, brif 0, brif 8, table 0 0, table 8 0 3, table 1 2 3 4 8"},
		{2, 1, "add, sub, mul, div, less, eq"},
		{1, 1, "load"},
		{2, 0, "store"},
		{0, 0, "trap, block, loop, else, end, br 0, br 8"},
	} {
		for _, x := range code(c.steps) {
			if off, on, ok := impl.NeedsOf(x); off != c.off || on != c.on || !ok {
				t.Errorf("NeedsOf(%v): %d %d %v, not %d %d", x, off, on, ok, c.off, c.on)
			}
		}
	}
}

// Promises 4 and 19: each Op with N at its ends and beyond, and with each kind of Table: where it may stand nowhere it needs nothing, and false.
func TestValidNeedsOfAnything(t *testing.T) {
	numbers := []int{math.MinInt, -65536, -1, 0, 1, 7, 8, 9, 65535, 65536, 1 << 32, math.MaxInt}
	tables := [][]int{nil, {}, {0}, {8}, {9}, {-1}, {0, 9}, {1, 2, 3}, {8, 8, 8, 8}, {0, 0, 0, 9}, {0, 0, 0, 0, 0}, slices.Repeat([]int{0}, 51)}
	for _, op := range []int{math.MinInt, -22, -1, 0, 23, 24, 256 + impl.WAdd, math.MaxInt} {
		for _, table := range tables {
			if off, on, ok := impl.NeedsOf(step(op, 0, table...)); off != 0 || on != 0 || ok {
				t.Errorf("NeedsOf(%d %v): %d %d %v", op, table, off, on, ok)
			}
		}
	}
	for op := impl.WConst; op <= impl.WTable; op++ {
		for _, n := range numbers {
			for _, table := range tables {
				x := step(op, n, table...)
				wantOff, wantOn := 0, 0
				stands := textByHand(x) != ""
				if stands {
					wantOff, wantOn = needsByHand(op)
				}
				if off, on, ok := impl.NeedsOf(x); off != wantOff || on != wantOn || ok != stands {
					t.Errorf("NeedsOf(%v): %d %d %v, not %d %d %v", x, off, on, ok, wantOff, wantOn, stands)
				}
			}
		}
	}
}

// notGood is code that chapter 3 does not call good; some of it would have a fault of another kind, too.
func notGood() [][]impl.Step {
	return [][]impl.Step{
		code("end"), code("block"), code("loop"), code("const 1, if"), code("else"), code("const 1, if, else"),
		code("block, else, end"), code("const 1, if, else, else, end"), code("block, end, end"),
		code("br 1"), code("const 1, brif 1"), code("block, const 1, table 0 2 1, end"), code("block, const 1, table 0 2, end"),
		code("drop, end"), code("const 1, drop, drop, block"), code(many("const 1", 5) + "end"), code("const 1, else"),
		code("trap, end"), code("br 0, block"),
		{{Op: -1}}, {{Op: 0}}, {{Op: 23}}, joined(code("const 1, drop"), []impl.Step{{Op: 23}}), {{}}, {{Op: math.MinInt}}, {{Op: math.MaxInt}},
		{step(impl.WConst, -1), {Op: impl.WDrop}}, {step(impl.WConst, 65536), {Op: impl.WDrop}}, {step(impl.WGet, 8), {Op: impl.WDrop}},
		{step(impl.WConst, 1), step(impl.WSet, -1)}, {step(impl.WTrap, 1)}, {step(impl.WTrap, 0, 0)}, {step(impl.WBr, 0, 0)}, {step(impl.WBr, -1)},
		joined(code("const 1"), []impl.Step{{Op: impl.WTable}}), joined(code("const 1"), []impl.Step{step(impl.WTable, 0, 0, 0, 0, 0, 0)}),
		code(many("block", 9) + many("end", 9)),
		code(many("trap", 61)), code(many("block, end", 31)), slices.Repeat(code("const 1, drop"), 50000), make([]impl.Step, 61),
	}
}

// Promises 4 and 19: code that is not good has VdShape and the place 0, whatever else it has.
func TestValidShape(t *testing.T) {
	for _, l := range notGood() {
		checkNotValid(t, l, impl.VdShape, 0)
	}
}

// Promise 4: as much code as there may be is valid.
func TestValidLimits(t *testing.T) {
	for _, text := range []string{
		"", many("trap", 60), many("block, end", 30), many("block", 8) + many("end", 8), many("const 65535, set 7", 30),
		many("block", 8) + "const 1, table 8 0 7 1 8," + many("end", 8), "block, const 1, const 1, const 1, const 1, br 1, end",
	} {
		if !checkValid(t, code(text)) {
			t.Error(text)
		}
	}
}

// faultCase is code with its code and its place.
type faultCase struct {
	code int
	at   int
	text string
}

func checkFaults(t *testing.T, cases []faultCase) {
	t.Helper()
	for _, c := range cases {
		l := code(c.text)
		if c.code != impl.VdOk {
			checkNotValid(t, l, c.code, c.at)
		}
		if valid := checkValid(t, l); valid != (c.code == impl.VdOk) {
			t.Errorf("%s: %v", c.text, valid)
		}
	}
}

// Promise 4: a step finds too few words, words below where the innermost one began not counting.
func TestValidTooFew(t *testing.T) {
	for _, word := range strings.Split("set 0/add/sub/mul/div/less/eq/load/store/out/drop/if, end/brif 0/table 0 0", "/") {
		first := code(word)[0]
		off, _ := needsByHand(first.Op)
		for have := range off {
			ahead := many("const 1", have)
			checkFaults(t, []faultCase{
				{impl.VdStack, have, ahead + word},
				{impl.VdStack, have + 1, "block," + ahead + word + ", end"},
				{impl.VdStack, have + 3, "const 1, const 1, block," + ahead + word + ", end, drop, drop"},
				{impl.VdStack, have + 3, "const 1, const 1, loop," + ahead + word + ", end, drop, drop"},
				{impl.VdStack, have + 3, "const 1, const 1, if," + ahead + word + ", end, drop"},
				{impl.VdStack, have + 4, "const 1, const 1, if, else," + ahead + word + ", end, drop"},
				{impl.VdStack, have + 4, "const 1, block, block, end," + ahead + word + ", end, drop"},
			})
		}
	}
	checkFaults(t, []faultCase{
		{impl.VdStack, 0, "drop"},
		{impl.VdStack, 2, "const 1, drop, drop"},
		{impl.VdStack, 2, "const 1, if, if, end, end"},
		{impl.VdStack, 3, "const 1, const 1, store, drop"},
		{impl.VdStack, 3, "const 1, const 1, add, store"},
		{impl.VdStack, 4, "block, const 1, brif 0, end, drop"},
		{impl.VdStack, 1, "loop, brif 0, end"},
		{impl.VdStack, 2, "const 1, block, add, end, drop"},
	})
}

// Promise 4: MaxStack words may lie there, and no more.
func TestValidTooMany(t *testing.T) {
	full := many("const 1", 4)
	checkFaults(t, []faultCase{
		{impl.VdOk, 0, full + many("drop", 4)},
		{impl.VdOk, 0, many("get 3", 4) + "add, add, store"},
		{impl.VdOk, 0, full + "load, load, load," + many("drop", 4)},
		{impl.VdOk, 0, full + "block, end," + many("drop", 4)},
		{impl.VdOk, 0, "const 1, const 1, block, const 1, loop, const 1, drop, end, drop, end, drop, drop"},
		{impl.VdOk, 0, full + "if, const 1, drop, else, const 1, drop, end, drop, drop, drop"},
		{impl.VdDeep, 4, full + "const 1"},
		{impl.VdDeep, 4, full + "get 0," + many("drop", 5)},
		{impl.VdDeep, 5, full + "block, const 1, drop, end," + many("drop", 4)},
		{impl.VdDeep, 6, "const 1, const 1, block, const 1, const 1, loop, const 1, drop, end, drop, drop, end, drop, drop"},
		{impl.VdDeep, 6, full + "if, const 1, const 1, end"},
		{impl.VdDeep, 7, full + "if, else, const 1, const 1, end"},
		{impl.VdDeep, 6, full + "drop, const 1, const 1"},
	})
}

// Promise 4: words are left at a WElse, at a WEnd, or behind all.
func TestValidRest(t *testing.T) {
	checkFaults(t, []faultCase{
		{impl.VdRest, 1, "const 1"},
		{impl.VdRest, 4, "get 0, get 1, get 2, add"},
		{impl.VdRest, 3, "block, end, const 1"},
		{impl.VdRest, 2, "block, const 1, end"},
		{impl.VdRest, 2, "loop, const 1, end"},
		{impl.VdRest, 3, "const 1, if, const 1, end"},
		{impl.VdRest, 3, "const 1, if, const 1, else, end"},
		{impl.VdRest, 3, "const 1, if, const 1, else, const 1, end"},
		{impl.VdRest, 4, "const 1, if, else, const 1, end"},
		{impl.VdRest, 3, "const 1, block, const 1, end, drop, drop"},
		{impl.VdRest, 3, "block, block, const 1, end, end"},
		{impl.VdRest, 4, "block, block, end, const 1, end"},
		{impl.VdRest, 4, "block, const 1, block, end, end"},
		{impl.VdRest, 3, "const 1, block, end"},
		{impl.VdRest, 60, many("block, end", 29) + "const 1, const 1"},
		{impl.VdRest, 4, many("const 1", 4)},
	})
}

// Promise 4: of two faults the first one by its place counts, whatever its code.
func TestValidTwoFaults(t *testing.T) {
	checkFaults(t, []faultCase{
		{impl.VdStack, 0, "drop, const 1"},
		{impl.VdStack, 0, "drop," + many("const 1", 5)},
		{impl.VdStack, 1, "block, drop, const 1, end"},
		{impl.VdRest, 2, "block, const 1, end, add"},
		{impl.VdRest, 2, "block, const 1, end," + many("const 1", 5)},
		{impl.VdRest, 3, "const 1, if, const 1, else, drop, end"},
		{impl.VdRest, 3, "const 1, if, const 1, else, const 1, const 1, const 1, const 1, const 1, end"},
		{impl.VdDeep, 4, many("const 1", 5) + "block, drop, end"},
		{impl.VdDeep, 5, "block," + many("const 1", 5) + "end"},
		{impl.VdDeep, 4, many("const 1", 7)},
		{impl.VdStack, 1, "const 1, add, add"},
	})
}

// Promise 4: behind WBr, WTable and WTrap nothing is lacking, but what is put on counts.
func TestValidDead(t *testing.T) {
	for _, end := range []string{"trap", "br 0", "const 1, table 0 0", "const 1, const 1, const 1, br 0", "const 1, const 1, trap", "const 1, const 1, table 0 0 0"} {
		from := len(code(end))
		checkFaults(t, []faultCase{
			{impl.VdOk, 0, end},
			{impl.VdOk, 0, end + ", add, drop, store, drop, set 0, out, brif 0, load, drop"},
			{impl.VdOk, 0, end + ", add, add, add, store"},
			{impl.VdOk, 0, end + ", const 1, store, const 1, add, drop"},
			{impl.VdOk, 0, end + ", if, drop, else, add, drop, end, out"},
			{impl.VdOk, 0, end + ", block, add, drop, loop, store, end, end, out"},
			{impl.VdOk, 0, end + ", const 1, block, out, end, drop, drop"},
			{impl.VdOk, 0, end + ", table 0 0, br 0, trap, drop"},
			{impl.VdOk, 0, end + ", const 1, const 1, br 0, store"},
			{impl.VdOk, 0, end + "," + many("const 1", 4) + many("drop", 6)},
			{impl.VdOk, 0, end + "," + many("const 1", 4) + "block, store, if, end, end," + many("drop", 4)},
			{impl.VdRest, from + 1, end + ", const 1"},
			{impl.VdRest, from + 1, end + ", add"},
			{impl.VdRest, from + 3, end + ", load, const 1, drop"},
			{impl.VdRest, from + 2, end + ", block, add, end, drop"},
			{impl.VdRest, from + 2, end + ", loop, const 1, end, drop"},
			{impl.VdRest, from + 2, end + ", if, load, else, end"},
			{impl.VdRest, from + 3, end + ", if, else, load, end"},
			{impl.VdRest, from + 2, end + ", if, load, end, drop"},
			{impl.VdDeep, from + 4, end + "," + many("const 1", 5) + many("drop", 5)},
			{impl.VdDeep, from + 4, end + "," + many("get 1", 5)},
			{impl.VdDeep, from + 5, end + "," + many("const 1", 4) + "block, add, drop, end," + many("drop", 4)},
			{impl.VdDeep, from + 5, end + "," + many("const 1", 4) + "loop, load, drop, end," + many("drop", 4)},
		})
	}
}

// Promise 4: within one that is open what is dead begins where that one began, and goes no lower.
func TestValidDeadWithin(t *testing.T) {
	checkFaults(t, []faultCase{
		{impl.VdOk, 0, "const 1, const 1, block, br 0, store, add, drop, end, drop, drop"},
		{impl.VdOk, 0, "const 1, const 1, block, const 1, br 1, store, end, drop, drop"},
		{impl.VdOk, 0, "const 1, const 1, loop, const 1, table 1 0, add, out, end, store"},
		{impl.VdOk, 0, many("const 1", 4) + "block, trap, store, end, add, add, add, drop"},
		{impl.VdDeep, 6, many("const 1", 4) + "block, trap, const 1, drop, end, add, add, add, drop"},
		{impl.VdDeep, 6, many("const 1", 4) + "block, trap, add, drop, end, add, add, add, drop"},
		{impl.VdRest, 5, "const 1, const 1, block, trap, const 1, end, drop, drop"},
		{impl.VdStack, 7, "const 1, const 1, block, br 0, store, end, store, drop"},
	})
}

// Promise 4: behind WElse it is dead as ahead of its WIf, behind WEnd as ahead of what is ended; a WBrIf makes nothing dead.
func TestValidDeadNoMore(t *testing.T) {
	checkFaults(t, []faultCase{
		{impl.VdStack, 3, "block, trap, end, drop"},
		{impl.VdStack, 3, "block, br 0, end, drop"},
		{impl.VdStack, 3, "block, br 1, end, drop"},
		{impl.VdStack, 3, "loop, br 0, end, drop"},
		{impl.VdStack, 4, "const 1, if, trap, else, drop, end"},
		{impl.VdStack, 6, "const 1, if, trap, else, trap, end, drop"},
		{impl.VdStack, 4, "const 1, if, trap, end, drop"},
		{impl.VdStack, 6, "block, trap, block, end, drop, end, drop"},
		{impl.VdStack, 7, "const 1, if, trap, if, else, end, else, drop, end"},
		{impl.VdOk, 0, "const 1, if, trap, if, drop, else, drop, end, drop, else, end"},
		{impl.VdOk, 0, "trap, block, trap, end, drop"},
		{impl.VdOk, 0, "trap, block, end, drop"},
		{impl.VdOk, 0, "trap, if, else, drop, end, drop"},
		{impl.VdOk, 0, "trap, if, br 0, else, drop, br 1, drop, end, drop"},
		{impl.VdOk, 0, "block, trap, loop, end, drop, end"},
		{impl.VdStack, 3, "block, const 1, brif 0, drop, end"},
		{impl.VdStack, 2, "const 1, brif 0, drop"},
		{impl.VdRest, 4, "block, const 1, const 1, brif 0, end"},
		{impl.VdOk, 0, "block, const 1, const 1, brif 0, drop, end"},
		{impl.VdStack, 3, "const 1, if, end, drop"},
	})
}

// Promise 4: heights, what is come to and what is left of code, written out.
func TestValidWrittenOut(t *testing.T) {
	for _, c := range []struct {
		text    string
		heights []int
		reaches string
		most    int
		cut     string
	}{
		{"", []int{0}, "", 0, ""},
		{"trap", []int{0, 0}, "1", 0, "trap"},
		{"const 5, out", []int{0, 1, 0}, "11", 1, "const 5, out"},
		{"block, get 0, br 0, add, drop, end", []int{0, 0, 1, 0, 1, 0, 0}, "111000", 1, "block, get 0, br 0, end"},
		{ // loops within choices within blocks
			"get 1, block, get 0, if, loop, get 2, br 1, out, end, const 3, out, else, br 1, store, end, const 4, out, end, set 0",
			[]int{0, 1, 1, 2, 1, 1, 2, 1, 1, 1, 2, 1, 1, 1, 1, 1, 2, 1, 1, 0}, "1111111001111001111",
			2, "get 1, block, get 0, if, loop, get 2, br 1, end, const 3, out, else, br 1, end, const 4, out, end, set 0",
		},
		{ // all within it is dead, but for its first step
			"const 1, block, br 0, get 0, get 1, store, loop, drop, end, end, drop",
			[]int{0, 1, 1, 1, 2, 3, 1, 1, 1, 1, 1, 0}, "11100000001",
			3, "const 1, block, br 0, end, drop",
		},
		{ // a block that stands dead goes, with all that is in it
			"block, trap, block, const 1, drop, end, end", []int{0, 0, 0, 0, 1, 0, 0, 0}, "1100000", 1, "block, trap, end",
		},
		{ // a WElse whose WIf's part ends dead
			"get 0, if, trap, drop, else, const 7, out, end, get 1, out",
			[]int{0, 1, 0, 0, 0, 0, 1, 0, 0, 1, 0}, "1110011111",
			1, "get 0, if, trap, else, const 7, out, end, get 1, out",
		},
		{ // a WElse part that ends dead, and one that is empty
			"get 0, if, else, br 1, out, end, get 0, if, br 0, else, end",
			[]int{0, 1, 0, 0, 0, 0, 0, 1, 0, 0, 0, 0}, "11110011101",
			1, "get 0, if, else, br 1, end, get 0, if, br 0, else, end",
		},
		{ // a WIf that stands dead, with its WElse and WEnd
			"block, br 0, if, const 1, drop, else, out, end, add, drop, end",
			[]int{0, 0, 0, 0, 1, 0, 0, 0, 0, 1, 0, 0}, "11000000000",
			1, "block, br 0, end",
		},
		{ // dead to its end
			"const 1, const 2, br 0, out, const 1, const 1, const 1, store, drop",
			[]int{0, 1, 2, 0, 0, 1, 2, 3, 1, 0}, "111000000",
			3, "const 1, const 2, br 0",
		},
		{"trap, block, end", []int{0, 0, 0, 0}, "100", 0, "trap"},
		{ // a WTable takes its word ahead of all
			"block, const 1, const 2, table 0 1, add, out, end, loop, end",
			[]int{0, 0, 1, 2, 0, 1, 0, 0, 0, 0}, "111100011",
			2, "block, const 1, const 2, table 0 1, end, loop, end",
		},
		{ // a WBrIf goes on
			"block, const 1, const 2, brif 0, out, end", []int{0, 0, 1, 2, 1, 0, 0}, "111111", 2, "block, const 1, const 2, brif 0, out, end",
		},
		{"loop, const 9, brif 0, end", []int{0, 0, 1, 0, 0}, "1111", 1, "loop, const 9, brif 0, end"},
		{"loop, br 0, end, const 1, drop", []int{0, 0, 0, 0, 1, 0}, "11011", 1, "loop, br 0, end, const 1, drop"},
		{many("const 1", 4) + "store, store", []int{0, 1, 2, 3, 4, 2, 0}, "111111", 4, many("const 1", 4) + "store, store"},
		{"trap," + many("const 1", 4) + many("drop", 4), []int{0, 0, 1, 2, 3, 4, 3, 2, 1, 0}, "100000000", 4, "trap"},
	} {
		l := code(c.text)
		if code, at, ok := impl.ValidSteps(l); code != impl.VdOk || at != 0 || !ok {
			t.Errorf("ValidSteps(%s): %d %d %v", c.text, code, at, ok)
		}
		if got, ok := impl.HeightsOf(l); !slices.Equal(got, c.heights) || !ok {
			t.Errorf("HeightsOf(%s): %v %v, not %v", c.text, got, ok, c.heights)
		}
		if got, ok := impl.ReachesOf(l); onesAndNoughts(got) != c.reaches || !ok {
			t.Errorf("ReachesOf(%s): %v %v, not %s", c.text, onesAndNoughts(got), ok, c.reaches)
		}
		if got, ok := impl.MostHigh(l); got != c.most || !ok {
			t.Errorf("MostHigh(%s): %v %v", c.text, got, ok)
		}
		if got, ok := impl.CutDead(l); !sameSteps(got, code(c.cut)) || !ok {
			t.Errorf("CutDead(%s): %v %v, not %s", c.text, got, ok, c.cut)
		}
		checkValid(t, l)
	}
}

func onesAndNoughts(l []bool) string {
	text := ""
	for _, yes := range l {
		text += map[bool]string{true: "1", false: "0"}[yes]
	}
	return text
}

// Promise 4: all short code.
func TestValidAllShort(t *testing.T) {
	for _, c := range []struct {
		steps string
		most  int
		least int
	}{
		{"const 1, set 0, add, load, store, trap, block, loop, if, else, end, br 0, br 1, brif 0, table 0 0, table 1 0", 4, 1000},
		{"const 1, drop, if, else, end, br 0, trap", 6, 3000},
	} {
		valid := 0
		for _, l := range allOf(code(c.steps), c.most) {
			if checkValid(t, l) {
				valid++
			}
		}
		if valid < c.least {
			t.Error("so few are valid: ", valid)
		}
	}
}

// grower makes valid code of all steps, part by part.
type grower struct {
	pick  func(int) int
	often []int // the Ops to take from; each as often as it stands here; nil: all alike
	l     []impl.Step
}

const fullGrown = 36

func (g *grower) op() int {
	if g.often == nil {
		return 1 + g.pick(22)
	}
	return g.often[g.pick(len(g.often))]
}

func (g *grower) add(x impl.Step) { g.l = append(g.l, x) }

// fill gives a step numbers that it may have so deep in code.
func (g *grower) fill(x impl.Step, depth int) impl.Step {
	_, most := wordOf(x.Op)
	switch {
	case x.Op >= 20:
		x.N = g.pick(depth + 1)
		for many := g.pick(4); x.Op == 22 && len(x.Table) <= many; {
			x.Table = append(x.Table, g.pick(depth+1))
		}
	case most > 0:
		x.N = g.pick(most + 1)
	}
	return x
}

func (g *grower) part(base int, depth int, dead bool) {
	own := 0
	for range 3 + g.pick(12) {
		x := g.fill(impl.Step{Op: g.op()}, depth)
		off, on := needsByHand(x.Op)
		after := max(own, off) - off + on
		if len(g.l) > fullGrown || x.Op == 18 || x.Op == 19 || own < off && !dead || base+after > 4 || opensByHand(x) && depth == 8 {
			continue
		}
		g.add(x)
		own = after
		if x.Op == 14 || x.Op == 20 || x.Op == 22 {
			own, dead = 0, true
		}
		if opensByHand(x) {
			g.inner(x.Op, base+own, depth+1, dead)
		}
	}
	for range own {
		g.add(impl.Step{Op: impl.WDrop})
	}
}

func (g *grower) inner(op int, base int, depth int, dead bool) {
	g.part(base, depth, dead)
	if op == impl.WIf && g.pick(2) == 0 {
		g.add(impl.Step{Op: impl.WElse})
		g.part(base, depth, dead)
	}
	g.add(impl.Step{Op: impl.WEnd})
}

// Promise 4: long code of all steps, as it grew, and with one step changed, left out or put in.
func TestValidMixed(t *testing.T) {
	pick := someSource()
	faults := map[int]int{}
	for range 2000 {
		g := grower{pick: pick}
		g.part(0, 0, false)
		if !checkValid(t, g.l) {
			t.Fatalf("%v is not valid", g.l)
		}
		for range 10 {
			l := copySteps(g.l)
			x := g.fill(impl.Step{Op: max(1, pick(30)-7)}, 2)
			at := pick(len(l) + 1)
			switch kind := pick(3); {
			case kind == 0 || len(l) == 0 || at == len(l):
				l = slices.Insert(l, at, x)
			case kind == 1:
				l[at] = x
			default:
				l = slices.Delete(l, at, at+1)
			}
			checkValid(t, l)
			faults[validByHand(l).code]++
		}
	}
	for code := impl.VdOk; code <= impl.VdDeep; code++ {
		if faults[code] < 100 {
			t.Errorf("so few of code %d: %d", code, faults[code])
		}
	}
}

// askValid asks every function of code.
func askValid(l []impl.Step) {
	impl.ValidSteps(l)
	impl.HeightsOf(l)
	impl.ReachesOf(l)
	impl.MostHigh(l)
	impl.CutDead(l)
	for _, x := range l {
		impl.NeedsOf(x)
	}
}

// Promise 19: nil lists and empty ones are alike.
func TestValidOfNothing(t *testing.T) {
	for _, l := range [][]impl.Step{nil, {}, code("drop")[:0]} {
		if !checkValid(t, l) {
			t.Error(l)
		}
		if got, ok := impl.CutDead(l); len(got) != 0 || !ok {
			t.Error(got, ok)
		}
	}
	for _, table := range [][]int{nil, {}} {
		l := []impl.Step{{Op: impl.WConst, N: 1, Table: table}, {Op: impl.WDrop, Table: table}, {Op: impl.WTrap, Table: table}, {Op: impl.WAdd, Table: table}, {Op: impl.WDrop, Table: table}}
		if got, ok := impl.CutDead(l); !sameSteps(got, code("const 1, drop, trap")) || !ok {
			t.Error(got, ok)
		}
		if !checkValid(t, l) {
			t.Error(l)
		}
		if off, on, ok := impl.NeedsOf(impl.Step{Op: impl.WTable, Table: table}); off != 0 || on != 0 || ok {
			t.Error(off, on, ok)
		}
	}
}

// Promise 19: no list that is handed in is changed, nor what lies behind it, nor a Table.
func TestValidListsStay(t *testing.T) {
	table := []int{0, 1, 99, 98, 97, 96}
	memory := joined(
		code("block, const 1, const 1"),
		[]impl.Step{{Op: impl.WTable, N: 1, Table: table[:2]}},
		code("drop, end, trap"),
		[]impl.Step{{Op: impl.WAdd, Table: table[:0]}, {Op: impl.WDrop}, {Op: -5, N: -6, Table: []int{-7}}, step(99, 98, 97)},
	)
	before := copySteps(memory)
	for many := range len(memory) + 1 {
		askValid(memory[:many])
		askValid(memory[many:])
	}
	if !checkValid(t, memory[:9]) || !sameSteps(memory, before) || !slices.Equal(table, []int{0, 1, 99, 98, 97, 96}) {
		t.Error(memory, table)
	}
}

// Promise 19: what lies behind a list's length, or behind a Table's, tells nothing and is not handed out.
func TestValidBehindLists(t *testing.T) {
	memory := joined(code("const 1, drop, const 1"), []impl.Step{step(99, 98, 97)})
	if code, at, ok := impl.ValidSteps(memory[:2]); code != impl.VdOk || at != 0 || !ok {
		t.Error(code, at, ok)
	}
	checkNotValid(t, memory[:3], impl.VdRest, 3)
	checkNotValid(t, memory, impl.VdShape, 0)
	table := []int{0, 0, 77, 77, 77, 77}
	l := []impl.Step{{Op: impl.WConst}, {Op: impl.WTable, Table: table[:2]}}
	cut, ok := impl.CutDead(l)
	if !sameSteps(cut, code("const 0, table 0 0 0")) || !ok {
		t.Fatal(cut, ok)
	}
	if got := cut[1].Table; slices.Contains(got[:cap(got)], 77) {
		t.Error(got[:cap(got)])
	}
	if got := cut[:cap(cut)]; slices.ContainsFunc(got[len(cut):], func(x impl.Step) bool { return x.Op != 0 || x.N != 0 || len(x.Table) > 0 }) {
		t.Error(got)
	}
}

// Promise 19: lists of numbers and of bools are new each time.
func TestValidAnswersAreNew(t *testing.T) {
	l := code("block, const 1, brif 0, br 0, add, drop, end")
	before := copySteps(l)
	first, _ := impl.HeightsOf(l)
	second, _ := impl.HeightsOf(l)
	spoilNumbers(first)
	if third, _ := impl.HeightsOf(l); !slices.Equal(second, third) || !slices.Equal(third, []int{0, 0, 1, 0, 0, 1, 0, 0}) {
		t.Error(second, third)
	}
	some, _ := impl.ReachesOf(l)
	others, _ := impl.ReachesOf(l)
	some = some[:cap(some)]
	for i := range some {
		some[i] = !some[i]
	}
	if again, _ := impl.ReachesOf(l); onesAndNoughts(others) != "1111000" || onesAndNoughts(again) != "1111000" {
		t.Error(others, again)
	}
	if !sameSteps(l, before) {
		t.Error(l)
	}
}

// Promise 19: what CutDead tells shares no memory with the code, nor do two of its Tables, even where those of the code do.
func TestValidCutIsNew(t *testing.T) {
	table := []int{0, 1, 2, 2, 1, 0}
	l := []impl.Step{
		{Op: impl.WBlock}, {Op: impl.WGet, Table: table[:0]},
		{Op: impl.WIf}, {Op: impl.WConst, N: 1}, {Op: impl.WTable, N: 1, Table: table[:2]}, {Op: impl.WElse},
		{Op: impl.WConst, N: 2}, {Op: impl.WTable, N: 2, Table: table[:2]}, {Op: impl.WEnd},
		{Op: impl.WConst, N: 3}, {Op: impl.WTable, N: 0, Table: table[1:2]}, {Op: impl.WEnd},
	}
	before := copySteps(l)
	want, _ := impl.CutDead(l)
	want = copySteps(want)
	if !sameSteps(want, before) {
		t.Fatal(want)
	}
	for _, k := range []int{1, 4, 7, 10} {
		cut, ok := impl.CutDead(l)
		spoilNumbers(cut[k].Table)
		for i := range cut {
			if i != k && !sameStep(cut[i], want[i]) || !ok {
				t.Error(k, i, cut[i])
			}
		}
		cut = cut[:cap(cut)]
		for i := range cut {
			cut[i] = step(99, 98, 97)
		}
		if !sameSteps(l, before) || !slices.Equal(table, []int{0, 1, 2, 2, 1, 0}) {
			t.Fatal(l, table)
		}
	}
	cut, _ := impl.CutDead(l)
	spoilNumbers(table)
	l[0] = step(99, 98, 97)
	if !sameSteps(cut, want) {
		t.Error(cut)
	}
}

// Promise 19: each Op at each place of code, whatever it has, and numbers far off.
func TestValidAnything(t *testing.T) {
	frame := code("const 1, const 1, block, const 1, if, const 1, drop, else, br 0, drop, end, end, store")
	for _, op := range []int{math.MinInt, -1, 0, 1, 2, 3, 4, 10, 11, 13, 14, 15, 16, 17, 18, 19, 20, 21, 22, 23, math.MaxInt} {
		for _, n := range []int{math.MinInt, -1, 0, 1, 2, 9, 65536, math.MaxInt} {
			for _, table := range [][]int{nil, {}, {0}, {-1}, {1, 2, 9}, {0, 0, 0, 0, 0}, slices.Repeat([]int{0}, 1000)} {
				x := step(op, n, table...)
				for at := range frame {
					l := copySteps(frame)
					l[at] = x
					checkValid(t, l)
					checkValid(t, slices.Insert(copySteps(frame), at, x))
				}
			}
		}
	}
}
