package tests

import (
	"math"
	"slices"
	"strings"
	"testing"

	"loop.example/g00373/impl"
)

// stateOf tells a state by hand: two locals, nothing else.
func stateOf(a int, b int) impl.State {
	return impl.State{Locals: []int{a, b, 0, 0, 0, 0, 0, 0}, Mem: make([]int, 16)}
}

func sameStates(a impl.State, b impl.State) bool {
	return slices.Equal(a.Locals, b.Locals) && slices.Equal(a.Mem, b.Mem) && slices.Equal(a.Told, b.Told)
}

func copyOfState(s impl.State) impl.State {
	return impl.State{Locals: slices.Clone(s.Locals), Mem: slices.Clone(s.Mem), Told: slices.Clone(s.Told)}
}

// places tells the numbers from 0 on, so many.
func places(many int) []int {
	out := make([]int, many)
	for i := range out {
		out[i] = i
	}
	return out
}

func isNothing(s impl.State) bool { return len(s.Locals)+len(s.Mem)+len(s.Told) == 0 }

// wordByHand tells what an op makes of two words; -1 if it does not.
func wordByHand(op int, a int, b int) int {
	yes := map[bool]int{true: 1}
	switch {
	case op == 4:
		return (a + b) % 65536
	case op == 5:
		return (a + 65536 - b) % 65536
	case op == 6:
		return a * b % 65536
	case op == 7 && b == 0:
		return -1
	case op == 7:
		return (a - a%b) / b
	case op == 8:
		return yes[b > a]
	}
	return yes[a == b]
}

// handRun goes through code part by part, each part having a stack of its own.
type handRun struct {
	l    []impl.Step
	s    impl.State
	fuel int
	done []int
	how  int
	cuts int // jumps that left words behind
}

// allOut is so many blocks out that nothing goes on.
const allOut = 1000

func (r *handRun) stop(how int) int {
	r.how = how
	return allOut
}

// begin counts a step, as long as there is fuel.
func (r *handRun) begin(at int) bool {
	if len(r.done) == r.fuel {
		r.stop(3)
		return false
	}
	r.done = append(r.done, at)
	return true
}

// part does the steps from one place up to another; it tells how many parts are left, itself the first; 0: it comes to its end.
func (r *handRun) part(from int, to int) int {
	var own []int
	for at := from; at < to; at++ {
		if !r.begin(at) {
			return allOut
		}
		x := r.l[at]
		off, _ := needsByHand(x.Op)
		words := slices.Clone(own[len(own)-off:])
		own = own[:len(own)-off]
		out := 0
		switch {
		case x.Op <= 14:
			put, does := r.plain(x, words)
			if !does {
				return r.stop(2)
			}
			own = append(own, put...)
		case x.Op <= 17:
			out = r.inner(at, words)
			at = endByHand(r.l, at)
		default:
			out = jumpByHand(x, words)
			r.cuts += len(own) * min(out, 1)
		}
		if out > 0 {
			return out
		}
	}
	return 0
}

// inner does what begins at a place; it tells how many parts are left around it.
func (r *handRun) inner(at int, words []int) int {
	end := endByHand(r.l, at)
	first := end
	if other := elseByHand(r.l, at); other >= 0 {
		first = other - 1
	}
	from, to := at+1, first
	if len(words) == 1 && words[0] == 0 {
		from, to = first+1, end
		if first == end {
			return 0
		}
	}
	out := r.part(from, to)
	for out == 1 && r.l[at].Op == 16 {
		out = r.part(from, to)
	}
	if out == 0 && !r.begin(to) {
		return allOut
	}
	return max(0, out-1)
}

// jumpByHand tells how many parts a jump leaves.
func jumpByHand(x impl.Step, words []int) int {
	switch {
	case x.Op == 21 && words[0] == 0:
		return 0
	case x.Op == 22 && words[0] < len(x.Table):
		return x.Table[words[0]] + 1
	}
	return x.N + 1
}

// plain does a step without parts; it tells what it puts on, and whether it does.
func (r *handRun) plain(x impl.Step, words []int) ([]int, bool) {
	switch x.Op {
	case 1:
		return []int{x.N}, true
	case 2:
		return []int{r.s.Locals[x.N]}, true
	case 3:
		r.s.Locals[x.N] = words[0]
	case 10:
		if words[0] > 15 {
			return nil, false
		}
		return []int{r.s.Mem[words[0]]}, true
	case 11:
		if words[0] > 15 {
			return nil, false
		}
		r.s.Mem[words[0]] = words[1]
	case 12:
		if len(r.s.Told) == 100 {
			return nil, false
		}
		r.s.Told = append(r.s.Told, words[0])
	case 13:
	case 14:
		return nil, false
	default:
		word := wordByHand(x.Op, words[0], words[1])
		return []int{word}, word >= 0
	}
	return nil, true
}

func runByHand(l []impl.Step, s impl.State, fuel int) handRun {
	r := handRun{l: l, s: copyOfState(s), fuel: fuel, how: 1}
	r.part(0, len(l))
	return r
}

// checkRun holds a run of valid code from a good state against one by hand.
func checkRun(t *testing.T, l []impl.Step, s impl.State, fuel int) handRun {
	t.Helper()
	r := runByHand(l, s, fuel)
	stepsBefore, stateBefore := copySteps(l), copyOfState(s)
	got, how, many, ok := impl.RunSteps(l, s, fuel)
	if !sameStates(got, r.s) || how != r.how || many != len(r.done) || !ok {
		t.Fatalf("RunSteps(%v, %v, %d): %v %d %d %v, not %v %d %d", l, s, fuel, got, how, many, ok, r.s, r.how, len(r.done))
	}
	if !impl.GoodState(got) {
		t.Fatalf("RunSteps(%v, %v, %d): %v", l, s, fuel, got)
	}
	if done, ok := impl.StepsDone(l, s, fuel); !slices.Equal(done, r.done) || !ok {
		t.Fatalf("StepsDone(%v, %v, %d): %v %v, not %v", l, s, fuel, done, ok, r.done)
	}
	if same, ok := impl.SameRuns(l, l, s, fuel); same != (how != 3) || ok != (how != 3) {
		t.Fatalf("SameRuns(%v, itself, %v, %d): %v %v", l, s, fuel, same, ok)
	}
	if !sameSteps(l, stepsBefore) || !sameStates(s, stateBefore) {
		t.Fatalf("%v %v were %v %v", l, s, stepsBefore, stateBefore)
	}
	return r
}

// checkNoRun looks for the zero answer.
func checkNoRun(t *testing.T, l []impl.Step, s impl.State, fuel int) {
	t.Helper()
	stepsBefore, stateBefore := copySteps(l), copyOfState(s)
	if got, how, many, ok := impl.RunSteps(l, s, fuel); !isNothing(got) || how != 0 || many != 0 || ok {
		t.Errorf("RunSteps(%v, %v, %d): %v %d %d %v", l, s, fuel, got, how, many, ok)
	}
	if done, ok := impl.StepsDone(l, s, fuel); len(done) != 0 || ok {
		t.Errorf("StepsDone(%v, %v, %d): %v %v", l, s, fuel, done, ok)
	}
	for _, pair := range [][2][]impl.Step{{l, l}, {l, nil}, {nil, l}} {
		if same, ok := impl.SameRuns(pair[0], pair[1], s, fuel); same || ok {
			t.Errorf("SameRuns(%v, %v, %v, %d): %v %v", pair[0], pair[1], s, fuel, same, ok)
		}
	}
	if !sameSteps(l, stepsBefore) || !sameStates(s, stateBefore) {
		t.Errorf("%v %v were %v %v", l, s, stepsBefore, stateBefore)
	}
}

// Promise 5: the constants are as the document has them.
func TestExecConstants(t *testing.T) {
	got := []int{impl.MaxMem, impl.MaxFuel, impl.MaxTold, impl.OutEnd, impl.OutTrap, impl.OutFuel}
	if !slices.Equal(got, []int{16, 2000, 100, 1, 2, 3}) {
		t.Error(got)
	}
}

// Promise 5: what ops make of words, written out.
func TestExecWordsWrittenOut(t *testing.T) {
	const top = impl.WordMask
	for _, c := range []struct {
		op   int
		a    int
		b    int
		want int
	}{
		{impl.WAdd, 0, 0, 0}, {impl.WAdd, 0, 1, 1}, {impl.WAdd, 1, 0, 1}, {impl.WAdd, 1, 1, 2}, {impl.WAdd, top, 0, top},
		{impl.WAdd, 0, top, top}, {impl.WAdd, top, 1, 0}, {impl.WAdd, 1, top, 0}, {impl.WAdd, top, top, 65534}, {impl.WAdd, 40000, 30000, 4464},
		{impl.WSub, 0, 0, 0}, {impl.WSub, 0, 1, top}, {impl.WSub, 1, 0, 1}, {impl.WSub, 1, 1, 0}, {impl.WSub, top, 0, top},
		{impl.WSub, 0, top, 1}, {impl.WSub, top, 1, 65534}, {impl.WSub, 1, top, 2}, {impl.WSub, top, top, 0}, {impl.WSub, 2, 5, 65533}, {impl.WSub, 5, 2, 3},
		{impl.WMul, 0, 0, 0}, {impl.WMul, 0, 1, 0}, {impl.WMul, 1, 0, 0}, {impl.WMul, 1, 1, 1}, {impl.WMul, top, 0, 0}, {impl.WMul, 0, top, 0},
		{impl.WMul, top, 1, top}, {impl.WMul, 1, top, top}, {impl.WMul, top, top, 1}, {impl.WMul, 256, 256, 0}, {impl.WMul, 257, 255, top}, {impl.WMul, 300, 300, 24464},
		{impl.WDiv, 0, 1, 0}, {impl.WDiv, 1, 1, 1}, {impl.WDiv, top, 1, top}, {impl.WDiv, 0, top, 0}, {impl.WDiv, 1, top, 0}, {impl.WDiv, top, top, 1},
		{impl.WDiv, 7, 2, 3}, {impl.WDiv, 2, 7, 0}, {impl.WDiv, top, 2, 32767}, {impl.WDiv, top, 65534, 1}, {impl.WDiv, 65534, top, 0},
		{impl.WLess, 0, 0, 0}, {impl.WLess, 0, 1, 1}, {impl.WLess, 1, 0, 0}, {impl.WLess, 1, 1, 0}, {impl.WLess, top, 0, 0},
		{impl.WLess, 0, top, 1}, {impl.WLess, top, 1, 0}, {impl.WLess, 1, top, 1}, {impl.WLess, top, top, 0}, {impl.WLess, 32767, 32768, 1},
		{impl.WEq, 0, 0, 1}, {impl.WEq, 0, 1, 0}, {impl.WEq, 1, 0, 0}, {impl.WEq, 1, 1, 1}, {impl.WEq, top, 0, 0},
		{impl.WEq, 0, top, 0}, {impl.WEq, top, 1, 0}, {impl.WEq, 1, top, 0}, {impl.WEq, top, top, 1},
	} {
		if word, does, ok := impl.DoWord(c.op, c.a, c.b); word != c.want || !does || !ok {
			t.Errorf("DoWord(%d, %d, %d): %d %v %v, not %d", c.op, c.a, c.b, word, does, ok, c.want)
		}
	}
	for _, a := range []int{0, 1, 2, 5, 65534, top} {
		if word, does, ok := impl.DoWord(impl.WDiv, a, 0); word != 0 || does || !ok {
			t.Errorf("DoWord(WDiv, %d, 0): %d %v %v", a, word, does, ok)
		}
	}
}

// Promises 5 and 19: each op at words from all over, and at what is no word or no such op.
func TestExecWordsOfAnything(t *testing.T) {
	words := []int{0, 1, 2, 3, 7, 15, 16, 127, 128, 255, 256, 257, 1000, 32767, 32768, 32769, 65533, 65534, 65535}
	others := []int{math.MinInt, math.MinInt + 1, -65536, -65535, -2, -1, 65536, 65537, 131071, 1 << 32, math.MaxInt}
	for op := impl.WAdd; op <= impl.WEq; op++ {
		for _, a := range words {
			for _, b := range words {
				want := wordByHand(op, a, b)
				if word, does, ok := impl.DoWord(op, a, b); word != max(0, want) || does != (want >= 0) || !ok {
					t.Errorf("DoWord(%d, %d, %d): %d %v %v, not %d", op, a, b, word, does, ok, want)
				}
			}
		}
	}
	none := func(op int, a int, b int) {
		if word, does, ok := impl.DoWord(op, a, b); word != 0 || does || ok {
			t.Errorf("DoWord(%d, %d, %d): %d %v %v", op, a, b, word, does, ok)
		}
	}
	for op := -1; op <= 24; op++ {
		for _, no := range others {
			for _, a := range append(others, words...) {
				none(op, a, no)
				none(op, no, a)
			}
		}
	}
	for _, op := range []int{math.MinInt, -4, -1, 0, impl.WConst, impl.WGet, impl.WSet, impl.WLoad, impl.WStore, impl.WOut, impl.WTable, 23, 256 + impl.WAdd, math.MaxInt} {
		for _, a := range append(others, words...) {
			none(op, a, 1)
			none(op, 1, a)
			none(op, a, 0)
		}
	}
}

// Promises 5 and 19: a new state of two words; none of what is no word.
func TestExecNewState(t *testing.T) {
	words := []int{0, 1, 2, 255, 65534, impl.WordMask}
	others := []int{math.MinInt, -65536, -1, impl.WordMask + 1, 1 << 32, math.MaxInt}
	for _, a := range words {
		for _, b := range words {
			s, ok := impl.NewState(a, b)
			if !sameStates(s, stateOf(a, b)) || !ok || !impl.GoodState(s) {
				t.Errorf("NewState(%d, %d): %v %v", a, b, s, ok)
			}
		}
		for _, b := range others {
			for _, pair := range [][2]int{{a, b}, {b, a}, {b, b}} {
				if s, ok := impl.NewState(pair[0], pair[1]); !isNothing(s) || ok {
					t.Errorf("NewState(%d, %d): %v %v", pair[0], pair[1], s, ok)
				}
			}
		}
	}
}

// listsOf tells a state's lists, such that they can be changed.
func listsOf(s *impl.State) []*[]int { return []*[]int{&s.Locals, &s.Mem, &s.Told} }

func fullState() impl.State {
	return impl.State{Locals: slices.Repeat([]int{5}, 8), Mem: slices.Repeat([]int{6}, 16), Told: slices.Repeat([]int{7}, 100)}
}

// wrongStates are states each with one thing wrong.
func wrongStates() []impl.State {
	out := []impl.State{{}, {Locals: make([]int, 8)}, {Mem: make([]int, 16)}, {Locals: []int{}, Mem: []int{}, Told: []int{}}, {Locals: make([]int, 16), Mem: make([]int, 8)}}
	for which := range 3 {
		for _, at := range []int{0, 1, 7, -1} {
			for _, n := range []int{math.MinInt, -65536, -1, 65536, 65537, math.MaxInt} {
				s := fullState()
				list := *listsOf(&s)[which]
				list[(at+len(list))%len(list)] = n
				out = append(out, s)
			}
		}
		longer, much := fullState(), fullState()
		*listsOf(&longer)[which] = append(*listsOf(&longer)[which], 0)
		*listsOf(&much)[which] = make([]int, 100000)
		out = append(out, longer, much)
		for _, many := range []int{0, 1, 7, 15} {
			s := fullState()
			if list := listsOf(&s)[which]; which < 2 && many < len(*list) {
				*list = (*list)[:many]
				out = append(out, s)
			}
		}
	}
	return out
}

// Promise 5: states with words at their ends, and as much told as may be.
func TestExecGoodStates(t *testing.T) {
	for many := range 101 {
		s := stateOf(0, 0)
		s.Told = make([]int, many)
		if !impl.GoodState(s) {
			t.Errorf("GoodState: %d words told", many)
		}
	}
	for which := range 3 {
		for at := range 100 {
			for _, n := range []int{0, 1, 65534, 65535} {
				s := fullState()
				list := *listsOf(&s)[which]
				list[at%len(list)] = n
				if !impl.GoodState(s) {
					t.Errorf("GoodState(%v)", s)
				}
			}
		}
	}
}

// Promise 19: states that are not good.
func TestExecWrongStates(t *testing.T) {
	for _, s := range wrongStates() {
		before := copyOfState(s)
		if impl.GoodState(s) || !sameStates(s, before) {
			t.Errorf("GoodState(%v)", s)
		}
		for _, l := range [][]impl.Step{nil, code("const 1, out"), code("trap")} {
			checkNoRun(t, l, s, 0)
			checkNoRun(t, l, s, 10)
		}
	}
	for which := range 3 {
		for at := range 100 {
			for _, n := range []int{-1, 65536} {
				s := fullState()
				list := *listsOf(&s)[which]
				list[at%len(list)] = n
				if impl.GoodState(s) {
					t.Errorf("GoodState(%v)", s)
				}
			}
		}
	}
}

// runCase is code that is run from NewState(a, b) with MaxFuel, how it comes out, what is told, and the places of the steps done.
type runCase struct {
	text string
	a    int
	b    int
	how  int
	told []int
	done []int
}

// checkRuns looks at the case, and then at the same code with all fuels up to what it needs and two more.
func checkRuns(t *testing.T, cases []runCase) {
	t.Helper()
	for _, c := range cases {
		l, s := code(c.text), stateOf(c.a, c.b)
		got, how, many, ok := impl.RunSteps(l, s, impl.MaxFuel)
		if how != c.how || !slices.Equal(got.Told, c.told) || many != len(c.done) || !ok {
			t.Errorf("RunSteps(%s; %d, %d): %d %d %v %v, not %d %d %v", c.text, c.a, c.b, how, many, got.Told, ok, c.how, len(c.done), c.told)
		}
		if done, ok := impl.StepsDone(l, s, impl.MaxFuel); !slices.Equal(done, c.done) || !ok {
			t.Errorf("StepsDone(%s; %d, %d): %v %v, not %v", c.text, c.a, c.b, done, ok, c.done)
		}
		checkFuels(t, l, s, places(len(c.done)+2))
	}
}

// checkFuels holds runs with rising fuels against runs by hand, and each against the one ahead.
func checkFuels(t *testing.T, l []impl.Step, s impl.State, fuels []int) {
	t.Helper()
	for i, fuel := range fuels {
		checkRun(t, l, s, fuel)
		if i > 0 {
			checkGoesOn(t, l, s, fuels[i-1], fuel)
		}
	}
}

// checkGoesOn is promise 5 of two fuels.
func checkGoesOn(t *testing.T, l []impl.Step, s impl.State, less int, more int) {
	t.Helper()
	first, how, many, ok := impl.RunSteps(l, s, less)
	second, howThen, manyThen, okToo := impl.RunSteps(l, s, more)
	if !ok || !okToo || many > less || manyThen > more || many > manyThen {
		t.Fatalf("RunSteps(%v, %v, %d): %d steps %v; %d: %d steps %v", l, s, less, many, ok, more, manyThen, okToo)
	}
	if how == impl.OutFuel && many != less || howThen == impl.OutFuel && manyThen != more {
		t.Fatalf("RunSteps(%v, %v): no fuel of %d and %d is left behind %d and %d steps", l, s, less, more, many, manyThen)
	}
	if how != impl.OutFuel && (howThen != how || manyThen != many || !sameStates(first, second)) {
		t.Fatalf("RunSteps(%v, %v, %d): %v %d %d, but %d: %v %d %d", l, s, less, first, how, many, more, second, howThen, manyThen)
	}
	done, _ := impl.StepsDone(l, s, less)
	doneThen, _ := impl.StepsDone(l, s, more)
	if len(done) != many || len(doneThen) != manyThen || !slices.Equal(done, doneThen[:many]) {
		t.Fatalf("StepsDone(%v, %v, %d): %v, but %d: %v", l, s, less, done, more, doneThen)
	}
	if told := first.Told; len(told) > len(second.Told) || !slices.Equal(told, second.Told[:len(told)]) {
		t.Fatalf("RunSteps(%v, %v, %d) tells %v, but %d %v", l, s, less, told, more, second.Told)
	}
	if how == impl.OutFuel && how == howThen && less < more && many == manyThen {
		t.Fatalf("RunSteps(%v, %v, %d) does no more than %d", l, s, more, less)
	}
}

// Promise 5: each Op alone, and what it does.
func TestExecEachOp(t *testing.T) {
	checkRuns(t, []runCase{
		{"", 3, 4, impl.OutEnd, nil, nil},
		{"const 0, out", 3, 4, impl.OutEnd, []int{0}, []int{0, 1}},
		{"const 65535, out", 3, 4, impl.OutEnd, []int{65535}, []int{0, 1}},
		{"get 0, out, get 1, out, get 7, out", 3, 4, impl.OutEnd, []int{3, 4, 0}, places(6)},
		{"const 8, set 7, get 7, out, get 0, out", 3, 4, impl.OutEnd, []int{8, 3}, places(6)},
		{"get 0, get 1, set 0, set 1, get 0, out, get 1, out", 3, 4, impl.OutEnd, []int{4, 3}, places(8)},
		{"get 0, get 1, add, out", 7, 2, impl.OutEnd, []int{9}, places(4)},
		{"get 0, get 1, sub, out", 7, 2, impl.OutEnd, []int{5}, places(4)},
		{"get 0, get 1, sub, out", 2, 7, impl.OutEnd, []int{65531}, places(4)},
		{"get 0, get 1, mul, out", 7, 2, impl.OutEnd, []int{14}, places(4)},
		{"get 0, get 1, div, out", 7, 2, impl.OutEnd, []int{3}, places(4)},
		{"get 0, get 1, div, out", 2, 7, impl.OutEnd, []int{0}, places(4)},
		{"get 0, get 1, less, out", 7, 2, impl.OutEnd, []int{0}, places(4)},
		{"get 0, get 1, less, out", 2, 7, impl.OutEnd, []int{1}, places(4)},
		{"get 0, get 1, eq, out", 7, 2, impl.OutEnd, []int{0}, places(4)},
		{"get 0, get 1, eq, out", 7, 7, impl.OutEnd, []int{1}, places(4)},
		{"get 0, load, out", 15, 0, impl.OutEnd, []int{0}, places(3)},
		{"get 0, get 1, store, get 0, load, out, get 1, load, out", 3, 9, impl.OutEnd, []int{9, 0}, places(9)},
		{"get 0, get 1, drop, out", 3, 4, impl.OutEnd, []int{3}, places(4)},
		{"get 0, get 1, out, out", 3, 4, impl.OutEnd, []int{4, 3}, places(4)},
		{"trap", 3, 4, impl.OutTrap, nil, []int{0}},
		{"get 0, out, trap, get 1, out", 3, 4, impl.OutTrap, []int{3}, []int{0, 1, 2}},
		{"block, end", 3, 4, impl.OutEnd, nil, []int{0, 1}},
		{"loop, end", 3, 4, impl.OutEnd, nil, []int{0, 1}},
		{"get 0, if, end", 3, 4, impl.OutEnd, nil, []int{0, 1, 2}},
		{"br 0", 3, 4, impl.OutEnd, nil, []int{0}},
		{"get 0, brif 0", 3, 4, impl.OutEnd, nil, []int{0, 1}},
		{"get 2, brif 0", 3, 4, impl.OutEnd, nil, []int{0, 1}},
		{"get 0, table 0 0", 3, 4, impl.OutEnd, nil, []int{0, 1}},
	})
}

// Promise 5: what a step leaves in the state, and nowhere else.
func TestExecStates(t *testing.T) {
	start := impl.State{Locals: []int{10, 11, 12, 13, 14, 15, 16, 17}, Mem: places(16), Told: []int{40, 50}}
	for n := range 8 {
		want := copyOfState(start)
		want.Locals[n] = 65535
		got, how, many, ok := impl.RunSteps([]impl.Step{step(impl.WConst, 65535), step(impl.WSet, n)}, start, 2)
		if !sameStates(got, want) || how != impl.OutEnd || many != 2 || !ok {
			t.Error(n, got, how, many, ok)
		}
		want = copyOfState(start)
		want.Told = []int{40, 50, 10 + n}
		if got, _, _, _ := impl.RunSteps([]impl.Step{step(impl.WGet, n), step(impl.WOut, 0)}, start, 2); !sameStates(got, want) {
			t.Error(n, got)
		}
	}
	for n := range 16 {
		want := copyOfState(start)
		want.Mem[n] = 300
		l := joined([]impl.Step{step(impl.WConst, n)}, code("const 300, store"))
		if got, how, many, ok := impl.RunSteps(l, start, 3); !sameStates(got, want) || how != impl.OutEnd || many != 3 || !ok {
			t.Error(n, got, how, many, ok)
		}
		want = copyOfState(start)
		want.Told = []int{40, 50, n}
		l = joined([]impl.Step{step(impl.WConst, n)}, code("load, out"))
		if got, _, _, _ := impl.RunSteps(l, start, 3); !sameStates(got, want) {
			t.Error(n, got)
		}
	}
	for _, text := range []string{"", "const 1, drop", "block, end", "const 0, if, end", "br 0", "trap", "const 1, const 0, div, out"} {
		if got, _, _, ok := impl.RunSteps(code(text), start, 100); !sameStates(got, start) || !ok {
			t.Error(text, got, ok)
		}
	}
}

// Promise 5: what traps, is counted, and changes nothing; right ahead of it nothing traps.
func TestExecTraps(t *testing.T) {
	checkRuns(t, []runCase{
		{"get 0, get 1, div, out, const 9, out", 5, 0, impl.OutTrap, nil, []int{0, 1, 2}},
		{"get 0, get 1, div, out, const 9, out", 0, 0, impl.OutTrap, nil, []int{0, 1, 2}},
		{"get 0, get 1, div, out, const 9, out", 0, 5, impl.OutEnd, []int{0, 9}, places(6)},
		{"get 0, get 1, div, out, const 9, out", 5, 1, impl.OutEnd, []int{5, 9}, places(6)},
		{"get 0, load, drop, const 9, out", 15, 0, impl.OutEnd, []int{9}, places(5)},
		{"get 0, load, drop, const 9, out", 16, 0, impl.OutTrap, nil, []int{0, 1}},
		{"get 0, load, drop, const 9, out", 17, 0, impl.OutTrap, nil, []int{0, 1}},
		{"get 0, load, drop, const 9, out", 65535, 0, impl.OutTrap, nil, []int{0, 1}},
		{"get 0, get 1, store, const 9, out", 15, 16, impl.OutEnd, []int{9}, places(5)},
		{"get 0, get 1, store, const 9, out", 15, 65535, impl.OutEnd, []int{9}, places(5)},
		{"get 0, get 1, store, const 9, out", 16, 15, impl.OutTrap, nil, []int{0, 1, 2}},
		{"get 0, get 1, store, const 9, out", 16, 0, impl.OutTrap, nil, []int{0, 1, 2}},
		{"get 0, get 1, store, const 9, out", 65535, 1, impl.OutTrap, nil, []int{0, 1, 2}},
		{"const 1, set 3, trap", 0, 0, impl.OutTrap, nil, []int{0, 1, 2}},
		{"const 9, out, block, loop, trap, end, end, const 8, out", 0, 0, impl.OutTrap, []int{9}, []int{0, 1, 2, 3, 4}},
		{"get 0, if, trap, end, const 8, out", 0, 0, impl.OutEnd, []int{8}, []int{0, 1, 4, 5}},
		{"get 0, if, trap, end, const 8, out", 1, 0, impl.OutTrap, nil, []int{0, 1, 2}},
		{"get 0, if, else, trap, end, const 8, out", 0, 0, impl.OutTrap, nil, []int{0, 1, 3}},
		{"get 0, if, else, trap, end, const 8, out", 1, 0, impl.OutEnd, []int{8}, []int{0, 1, 2, 5, 6}},
	})
	s := stateOf(5, 0)
	got, how, many, ok := impl.RunSteps(code("const 3, set 7, const 15, const 16, store, get 0, out, get 0, get 1, div, set 6"), s, 100)
	want := stateOf(5, 0)
	want.Locals[7], want.Mem[15], want.Told = 3, 16, []int{5}
	if !sameStates(got, want) || how != impl.OutTrap || many != 10 || !ok {
		t.Error(got, how, many, ok)
	}
}

// Promise 5: a run that is given just as much fuel as it needs up to a trap traps.
func TestExecTrapAtLastFuel(t *testing.T) {
	for _, c := range []struct {
		text string
		need int
	}{{"trap", 1}, {"const 1, drop, trap", 3}, {"const 1, const 0, div, drop", 3}, {"const 16, load, drop", 2}} {
		for fuel := range c.need + 3 {
			wantHow, wantMany := impl.OutTrap, c.need
			if fuel < c.need {
				wantHow, wantMany = impl.OutFuel, fuel
			}
			if _, how, many, ok := impl.RunSteps(code(c.text), stateOf(0, 0), fuel); how != wantHow || many != wantMany || !ok {
				t.Errorf("RunSteps(%s, %d): %d %d %v", c.text, fuel, how, many, ok)
			}
		}
	}
}

const tellDown = "loop, get 0, out, get 0, const 1, sub, set 0, get 0, brif 0, end"

// Promise 5: as many words as MaxTold are told, and no more.
func TestExecTold(t *testing.T) {
	l := code(tellDown)
	for _, c := range []struct{ ahead, more, how, many int }{
		{0, 1, 1, 10}, {0, 99, 1, 794}, {0, 100, 1, 802}, {0, 101, 2, 803}, {0, 200, 2, 803},
		{1, 99, 1, 794}, {1, 100, 2, 795}, {98, 2, 1, 18}, {98, 3, 2, 19}, {99, 1, 1, 10}, {99, 2, 2, 11}, {100, 1, 2, 3}, {100, 5, 2, 3},
	} {
		s := stateOf(c.more, 0)
		s.Told = slices.Repeat([]int{60000}, c.ahead)
		got, how, many, ok := impl.RunSteps(l, s, impl.MaxFuel)
		if len(got.Told) != min(100, c.ahead+c.more) || how != c.how || many != c.many || !ok {
			t.Errorf("RunSteps: %d told ahead, %d more: %d, %d %d %v", c.ahead, c.more, len(got.Told), how, many, ok)
		}
		for i, word := range got.Told {
			if want := c.more - (i - c.ahead); i < c.ahead && word != 60000 || i >= c.ahead && word != want {
				t.Errorf("RunSteps: %d told ahead, %d more: %v", c.ahead, c.more, got.Told)
				break
			}
		}
		checkRun(t, l, s, impl.MaxFuel)
		checkGoesOn(t, l, s, c.many-1, c.many)
		checkGoesOn(t, l, s, c.many, c.many+1)
	}
	s := stateOf(0, 0)
	s.Told = make([]int, 100)
	if got, how, many, ok := impl.RunSteps(code("const 1, drop"), s, 5); !sameStates(got, s) || how != impl.OutEnd || many != 2 || !ok {
		t.Error(got, how, many, ok)
	}
}

// Promise 5: a WIf with and without a WElse, at 0 and not at 0, within others, and a WElse that is come to.
func TestExecChoices(t *testing.T) {
	const choice = "get 0, if, const 7, out, else, const 8, out, end, const 9, out"
	const alone = "get 0, if, const 7, out, end, const 9, out"
	const nested = "get 0, if, get 1, if, const 1, out, else, const 2, out, end, else, get 1, if, const 3, out, end, end"
	checkRuns(t, []runCase{
		{choice, 1, 0, impl.OutEnd, []int{7, 9}, []int{0, 1, 2, 3, 4, 8, 9}},
		{choice, 2, 0, impl.OutEnd, []int{7, 9}, []int{0, 1, 2, 3, 4, 8, 9}},
		{choice, 65535, 0, impl.OutEnd, []int{7, 9}, []int{0, 1, 2, 3, 4, 8, 9}},
		{choice, 0, 1, impl.OutEnd, []int{8, 9}, []int{0, 1, 5, 6, 7, 8, 9}},
		{alone, 1, 0, impl.OutEnd, []int{7, 9}, []int{0, 1, 2, 3, 4, 5, 6}},
		{alone, 0, 1, impl.OutEnd, []int{9}, []int{0, 1, 5, 6}},
		{"get 0, if, else, end, const 9, out", 1, 0, impl.OutEnd, []int{9}, []int{0, 1, 2, 4, 5}},
		{"get 0, if, else, end, const 9, out", 0, 0, impl.OutEnd, []int{9}, []int{0, 1, 3, 4, 5}},
		{"get 0, if, end", 0, 0, impl.OutEnd, nil, []int{0, 1}},
		{"get 0, if, else, end", 1, 0, impl.OutEnd, nil, []int{0, 1, 2}},
		{nested, 1, 1, impl.OutEnd, []int{1}, []int{0, 1, 2, 3, 4, 5, 6, 10}},
		{nested, 1, 0, impl.OutEnd, []int{2}, []int{0, 1, 2, 3, 7, 8, 9, 10}},
		{nested, 0, 1, impl.OutEnd, []int{3}, []int{0, 1, 11, 12, 13, 14, 15, 16}},
		{nested, 0, 0, impl.OutEnd, nil, []int{0, 1, 11, 12, 16}},
		// what lies within it has a WElse of its own
		{"get 0, if, get 1, if, else, const 5, out, end, end, const 6, out", 0, 0, impl.OutEnd, []int{6}, []int{0, 1, 9, 10}},
		{"get 0, if, get 1, if, else, const 5, out, end, else, const 4, out, end", 0, 0, impl.OutEnd, []int{4}, []int{0, 1, 9, 10, 11}},
		{"const 5, get 0, if, const 1, drop, else, const 2, drop, end, out", 0, 0, impl.OutEnd, []int{5}, []int{0, 1, 2, 6, 7, 8, 9}},
		{"const 5, get 0, if, const 1, drop, else, const 2, drop, end, out", 3, 0, impl.OutEnd, []int{5}, []int{0, 1, 2, 3, 4, 5, 9}},
	})
}

// Promise 5: a WBr out of each kind, one out and more out, back to a WLoop and out of all code; the stack is cut to where what is left begins.
func TestExecJumps(t *testing.T) {
	const twoOut = "const 9, block, const 6, block, const 7, const 8, br 1, end, drop, end, out"
	checkRuns(t, []runCase{
		{"block, br 0, const 1, out, end, const 2, out", 0, 0, impl.OutEnd, []int{2}, []int{0, 1, 5, 6}},
		{"const 9, const 6, block, const 7, br 0, end, sub, out", 0, 0, impl.OutEnd, []int{3}, []int{0, 1, 2, 3, 4, 6, 7}},
		{"const 9, block, const 7, const 8, br 0, end, out", 0, 0, impl.OutEnd, []int{9}, []int{0, 1, 2, 3, 4, 6}},
		{twoOut, 0, 0, impl.OutEnd, []int{9}, []int{0, 1, 2, 3, 4, 5, 6, 10}},
		{strings.Replace(twoOut, "br 1", "br 0", 1), 0, 0, impl.OutEnd, []int{9}, []int{0, 1, 2, 3, 4, 5, 6, 8, 9, 10}},
		{strings.Replace(twoOut, "br 1", "br 2", 1), 0, 0, impl.OutEnd, nil, []int{0, 1, 2, 3, 4, 5, 6}},
		{"const 9, const 1, if, const 7, br 0, else, end, out", 0, 0, impl.OutEnd, []int{9}, []int{0, 1, 2, 3, 4, 7}},
		{"const 9, const 1, if, const 7, br 0, end, out", 0, 0, impl.OutEnd, []int{9}, []int{0, 1, 2, 3, 4, 6}},
		{"const 9, const 0, if, trap, else, const 7, br 0, end, out", 0, 0, impl.OutEnd, []int{9}, []int{0, 1, 2, 5, 6, 8}},
		{"const 9, block, const 1, if, const 7, br 1, end, const 5, out, end, out", 0, 0, impl.OutEnd, []int{9}, []int{0, 1, 2, 3, 4, 5, 10}},
		{"const 9, const 8, const 7, br 0, out, out", 0, 0, impl.OutEnd, nil, []int{0, 1, 2, 3}},
		{"const 9, out, loop, br 1, end, const 8, out", 0, 0, impl.OutEnd, []int{9}, []int{0, 1, 2, 3}},
		{"const 9, block, loop, const 4, br 1, end, trap, end, out", 0, 0, impl.OutEnd, []int{9}, []int{0, 1, 2, 3, 4, 8}},
		// back to a WLoop with words: they are gone each time
		{
			"const 9, loop, get 0, const 1, sub, set 0, const 77, get 0, brif 0, drop, end, out", 3, 0, impl.OutEnd, []int{9},
			[]int{0, 1, 2, 3, 4, 5, 6, 7, 8, 2, 3, 4, 5, 6, 7, 8, 2, 3, 4, 5, 6, 7, 8, 9, 10, 11},
		},
		{
			"const 9, loop, get 0, if, get 0, const 1, sub, set 0, const 5, const 6, br 1, end, end, out", 2, 0, impl.OutEnd, []int{9},
			[]int{0, 1, 2, 3, 4, 5, 6, 7, 8, 9, 10, 2, 3, 4, 5, 6, 7, 8, 9, 10, 2, 3, 12, 13},
		},
	})
}

// Promise 5: a WBrIf at 0 and not at 0: what lies below stays where it does not jump.
func TestExecJumpsIf(t *testing.T) {
	const out = "const 9, block, const 7, get 0, brif 0, out, end, out"
	const far = "const 9, block, const 5, block, const 7, get 0, brif 1, out, end, out, end, out"
	checkRuns(t, []runCase{
		{out, 0, 0, impl.OutEnd, []int{7, 9}, places(8)},
		{out, 1, 0, impl.OutEnd, []int{9}, []int{0, 1, 2, 3, 4, 7}},
		{out, 65535, 0, impl.OutEnd, []int{9}, []int{0, 1, 2, 3, 4, 7}},
		{far, 0, 0, impl.OutEnd, []int{7, 5, 9}, places(12)},
		{far, 1, 0, impl.OutEnd, []int{9}, []int{0, 1, 2, 3, 4, 5, 6, 11}},
		{strings.Replace(far, "brif 1", "brif 0", 1), 1, 0, impl.OutEnd, []int{5, 9}, []int{0, 1, 2, 3, 4, 5, 6, 9, 10, 11}},
		{strings.Replace(far, "brif 1", "brif 2", 1), 1, 0, impl.OutEnd, nil, []int{0, 1, 2, 3, 4, 5, 6}},
		{strings.Replace(far, "brif 1", "brif 2", 1), 0, 0, impl.OutEnd, []int{7, 5, 9}, places(12)},
		{"const 3, get 0, brif 0, out", 0, 0, impl.OutEnd, []int{3}, places(4)},
		{"const 3, get 0, brif 0, out", 2, 0, impl.OutEnd, nil, []int{0, 1, 2}},
		{"const 1, if, get 0, brif 0, const 4, out, end", 0, 0, impl.OutEnd, []int{4}, places(7)},
		{"const 1, if, get 0, brif 0, const 4, out, end", 1, 0, impl.OutEnd, nil, []int{0, 1, 2, 3}},
		{"const 1, if, get 0, brif 0, const 4, out, else, trap, end", 1, 0, impl.OutEnd, nil, []int{0, 1, 2, 3}},
	})
}

// Promise 5: a WTable at each number of its Table, at one behind it, and far behind it; with words on the stack, to each kind.
func TestExecTables(t *testing.T) {
	const l = "const 9, block, const 5, block, const 4, get 0, table 1 0 2 1, end, out, end, out"
	one, none, two := []int{0, 1, 2, 3, 4, 5, 6, 10}, []int{0, 1, 2, 3, 4, 5, 6, 8, 9, 10}, []int{0, 1, 2, 3, 4, 5, 6}
	const loop = "const 9, loop, block, get 0, const 1, add, set 0, const 4, get 0, table 2 1 0 2, end, const 6, out, end, out"
	const short = "block, block, get 0, table 0 1, end, const 1, out, end, const 2, out"
	checkRuns(t, []runCase{
		{l, 0, 0, impl.OutEnd, []int{9}, one},
		{l, 1, 0, impl.OutEnd, []int{5, 9}, none},
		{l, 2, 0, impl.OutEnd, nil, two},
		{l, 3, 0, impl.OutEnd, []int{9}, one},
		{l, 4, 0, impl.OutEnd, []int{9}, one},
		{l, 65535, 0, impl.OutEnd, []int{9}, one},
		{loop, 0, 0, impl.OutEnd, []int{6, 9}, []int{0, 1, 2, 3, 4, 5, 6, 7, 8, 9, 2, 3, 4, 5, 6, 7, 8, 9, 11, 12, 13, 14}},
		{loop, 1, 0, impl.OutEnd, []int{6, 9}, []int{0, 1, 2, 3, 4, 5, 6, 7, 8, 9, 11, 12, 13, 14}},
		{loop, 2, 0, impl.OutEnd, nil, []int{0, 1, 2, 3, 4, 5, 6, 7, 8, 9}},
		{short, 0, 0, impl.OutEnd, []int{1, 2}, []int{0, 1, 2, 3, 5, 6, 7, 8, 9}},
		{short, 1, 0, impl.OutEnd, []int{2}, []int{0, 1, 2, 3, 8, 9}},
		{short, 2, 0, impl.OutEnd, []int{2}, []int{0, 1, 2, 3, 8, 9}},
	})
	inner := step(impl.WTable, 4, 0, 1, 2, 3)
	for which := range 6 {
		l := joined([]impl.Step{step(impl.WConst, which), step(impl.WSet, 0)}, slices.Repeat(ops(impl.WBlock), 4), []impl.Step{step(impl.WGet, 0), inner, {Op: impl.WEnd}})
		for n := 1; n < 4; n++ {
			l = joined(l, []impl.Step{step(impl.WConst, n), {Op: impl.WOut}, {Op: impl.WEnd}})
		}
		l = joined(l, code("const 4, out"))
		want := [][]int{{1, 2, 3, 4}, {2, 3, 4}, {3, 4}, {4}, nil, nil}[which]
		if got, how, _, ok := impl.RunSteps(l, stateOf(0, 0), 100); !slices.Equal(got.Told, want) || how != impl.OutEnd || !ok {
			t.Errorf("RunSteps(%v): %v %d %v, not %v", l, got.Told, how, ok, want)
		}
	}
}

// Promise 5: fuel of 0, fuel that is met just at the end, one less, MaxFuel, and loops without end.
func TestExecFuel(t *testing.T) {
	const down = "loop, get 0, const 1, sub, set 0, get 0, brif 0, end"
	for _, c := range []struct{ text, a, fuel, how, many any }{
		{"", 0, 0, impl.OutEnd, 0},
		{"", 0, impl.MaxFuel, impl.OutEnd, 0},
		{"const 1, out", 0, 0, impl.OutFuel, 0},
		{"const 1, out", 0, 1, impl.OutFuel, 1},
		{"const 1, out", 0, 2, impl.OutEnd, 2},
		{"const 1, out", 0, 3, impl.OutEnd, 2},
		{"trap", 0, 0, impl.OutFuel, 0},
		{"br 0", 0, 0, impl.OutFuel, 0},
		{"br 0, trap", 0, 1, impl.OutEnd, 1},
		{"block, end", 0, 1, impl.OutFuel, 1},
		{"block, end", 0, 2, impl.OutEnd, 2},
		{"const 0, if, trap, end", 0, 2, impl.OutEnd, 2},
		{"const 1, if, else, trap, end", 0, 2, impl.OutFuel, 2},
		{"const 1, if, else, trap, end", 0, 3, impl.OutEnd, 3},
		{"loop, br 0, end", 0, 0, impl.OutFuel, 0},
		{"loop, br 0, end", 0, 1, impl.OutFuel, 1},
		{"loop, br 0, end", 0, 999, impl.OutFuel, 999},
		{"loop, br 0, end", 0, impl.MaxFuel, impl.OutFuel, 2000},
		{"loop, const 0, table 0 1, end", 0, impl.MaxFuel, impl.OutFuel, 2000},
		{"loop, const 1, const 1, const 1, const 1, brif 0, trap, end", 0, impl.MaxFuel, impl.OutFuel, 2000},
		{down, 1, 8, impl.OutEnd, 8},
		{down, 1, 7, impl.OutFuel, 7},
		{down, 333, 2000, impl.OutEnd, 2000},
		{down, 333, 1999, impl.OutFuel, 1999},
		{down, 334, 2000, impl.OutFuel, 2000},
		{down, 0, 2000, impl.OutFuel, 2000},
	} {
		l, s, fuel := code(c.text.(string)), stateOf(c.a.(int), 0), c.fuel.(int)
		if _, how, many, ok := impl.RunSteps(l, s, fuel); how != c.how || many != c.many || !ok {
			t.Errorf("RunSteps(%s, %d, %d): %d %d %v, not %d %d", c.text, c.a, fuel, how, many, ok, c.how, c.many)
		}
		checkRun(t, l, s, fuel)
	}
}

// Promise 5: as many steps as MaxCode, as many within each other as MaxNest, and as many words as MaxStack.
func TestExecLimits(t *testing.T) {
	deep := func(jump string) string {
		return many("block", 8) + jump + "," + many("end", 7) + "trap, end, const 1, out"
	}
	checkRuns(t, []runCase{
		{many("const 3, out", 30), 0, 0, impl.OutEnd, slices.Repeat([]int{3}, 30), places(60)},
		{many("block, end", 29) + "const 3, out", 0, 0, impl.OutEnd, []int{3}, places(60)},
		{many("block, end", 29) + "br 0, trap", 0, 0, impl.OutEnd, nil, places(59)},
		{many("block, end", 29) + "const 1, brif 0", 0, 0, impl.OutEnd, nil, places(60)},
		{many("const 9, set 1", 29) + "const 1, trap", 0, 0, impl.OutTrap, nil, places(60)},
		{deep("br 8"), 0, 0, impl.OutEnd, nil, places(9)},
		{deep("br 7"), 0, 0, impl.OutEnd, []int{1}, append(places(9), 18, 19)},
		{deep("br 6"), 0, 0, impl.OutTrap, nil, append(places(9), 16)},
		{deep("br 0"), 0, 0, impl.OutTrap, nil, append(places(9), 10, 11, 12, 13, 14, 15, 16)},
		{"get 0, get 1, const 3, const 4, out, out, out, out", 1, 2, impl.OutEnd, []int{4, 3, 2, 1}, places(8)},
		{"const 9, const 8, const 7, loop, const 6, br 1, end, trap", 0, 0, impl.OutEnd, nil, places(6)},
		{"const 9, const 8, const 7, block, const 6, br 0, end, out, out, out", 0, 0, impl.OutEnd, []int{7, 8, 9}, []int{0, 1, 2, 3, 4, 5, 7, 8, 9}},
	})
}

// Promise 19: fuels that are not as said.
func TestExecWrongFuel(t *testing.T) {
	for _, fuel := range []int{math.MinInt, -2000, -2, -1, 2001, 2002, 1 << 32, math.MaxInt} {
		for _, text := range []string{"", "trap", "const 1, out", "loop, br 0, end", "drop"} {
			checkNoRun(t, code(text), stateOf(0, 0), fuel)
		}
	}
}

// notValid is code that is good, but not valid.
func notValid() [][]impl.Step {
	var out [][]impl.Step
	for _, text := range []string{
		"drop", "out", "set 0", "add", "const 1, add", "load", "store", "const 1, store", "if, end", "brif 0", "table 0 0",
		"const 1", "const 1, out, const 1", "block, const 1, end", "const 1, block, drop, end", "const 1, block, out, end, const 1",
		many("const 1", 5) + many("drop", 5), "const 1, if, const 1, else, end, drop", "trap, const 1", "br 0, const 1", "block, br 0, end, drop",
		"const 1, drop, trap, const 1", "loop, br 0, end, out",
	} {
		out = append(out, code(text))
	}
	return out
}

// Promise 19: code that is not good, and code that is good and not valid, though a run never came to what is wrong.
func TestExecWrongCode(t *testing.T) {
	for _, l := range append(notGood(), notValid()...) {
		for _, fuel := range []int{-1, 0, 1, 5, 2000, 2001} {
			checkNoRun(t, l, stateOf(1, 2), fuel)
			checkNoRun(t, l, impl.State{}, fuel)
		}
	}
}

// sameCase is two pieces of code and what SameRuns tells of them.
type sameCase struct {
	a    string
	b    string
	same bool
	ok   bool
}

// Promise 5: runs that come out alike and that do not.
func TestExecSameRuns(t *testing.T) {
	const endless = "loop, br 0, end"
	for _, c := range []sameCase{
		{"", "", true, true},
		{"", "const 1, drop", true, true},
		{"", "br 0, trap", true, true},
		{"const 1, out", "const 3, const 2, sub, out", true, true},
		{"const 2, const 3, mul, set 4", "const 6, set 4", true, true},
		{"const 3, const 2, store", "const 3, const 9, store, const 3, const 2, store", true, true},
		{"const 1, if, const 5, out, else, trap, end", "const 5, out", true, true},
		// both trap, with like states and with others
		{"trap", "const 1, const 0, div, drop", true, true},
		{"trap", "const 16, load, drop", true, true},
		{"const 1, out, trap", "const 1, out, const 99, const 0, store", true, true},
		{"const 1, out, trap", "trap", false, true},
		{"const 1, set 3, trap", "trap", false, true},
		{"const 1, const 1, store, trap", "trap", false, true},
		// one ends and one traps
		{"", "trap", false, true},
		{"const 1, out", "const 1, out, trap", false, true},
		{"const 0, load, drop", "const 16, load, drop", false, true},
		// states that differ
		{"", "const 1, set 0", false, true},
		{"", "const 1, set 7", false, true},
		{"const 2, set 3", "const 2, set 4", false, true},
		{"", "const 0, const 1, store", false, true},
		{"", "const 15, const 1, store", false, true},
		{"const 1, const 2, store", "const 2, const 1, store", false, true},
		{"", "const 0, out", false, true},
		{"const 1, out", "const 2, out", false, true},
		{"const 1, out, const 2, out", "const 2, out, const 1, out", false, true},
		{"const 1, out, const 2, out", "const 1, out", false, true},
		// fuel that runs out
		{"", endless, false, false},
		{"trap", endless, false, false},
		{endless, endless, false, false},
		{"", many("block, end", 26), false, false},
		{"", many("block, end", 25), true, true},
		// code that is not valid
		{"", "drop", false, false},
		{"", "const 1", false, false},
		{"trap", "trap, const 1", false, false},
		{"end", "end", false, false},
		{"const 1", "const 1", false, false},
	} {
		for _, pair := range [][2]string{{c.a, c.b}, {c.b, c.a}} {
			if same, ok := impl.SameRuns(code(pair[0]), code(pair[1]), stateOf(0, 0), 50); same != c.same || ok != c.ok {
				t.Errorf("SameRuns(%s; %s): %v %v, not %v %v", pair[0], pair[1], same, ok, c.same, c.ok)
			}
		}
	}
}

// Promise 5: SameRuns of one pair from many states: they are alike from some and not from others.
func TestExecSameRunsFromStates(t *testing.T) {
	a, b := code("get 0, get 1, div, out"), code("get 0, get 1, less, if, const 0, out, else, const 1, out, end")
	for x := range 12 {
		for y := range 12 {
			same, ok := impl.SameRuns(a, b, stateOf(x, y), 10)
			if same != (y > 0 && x < 2*y) || !ok {
				t.Errorf("SameRuns from %d %d: %v %v", x, y, same, ok)
			}
		}
	}
	full := fullState()
	if same, ok := impl.SameRuns(code("const 1, out"), code("trap"), full, 10); !same || !ok {
		t.Error(same, ok)
	}
	full.Told = full.Told[:99]
	if same, ok := impl.SameRuns(code("const 1, out"), code("trap"), full, 10); same || !ok {
		t.Error(same, ok)
	}
}

// Promise 5: all short code that is valid, with all fuels up to a few.
func TestExecAllShort(t *testing.T) {
	for _, c := range []struct {
		steps string
		most  int
		least int
	}{
		{"const 0, const 1, get 0, set 1, out, trap, block, loop, if, else, end, br 0, br 1, brif 0, table 0 1", 5, 2000},
		{"const 0, const 2, get 0, sub, div, less, load, store, set 0, out, drop", 5, 1000},
		{"const 0, const 1, if, else, end, brif 0, out", 7, 1000},
	} {
		valid := 0
		for _, l := range allOf(code(c.steps), c.most) {
			if _, _, ok := impl.ValidSteps(l); !ok {
				continue
			}
			valid++
			for fuel := range c.most + 2 {
				checkRun(t, l, stateOf(1, 0), fuel)
			}
			checkRun(t, l, stateOf(0, 0), 20)
		}
		if valid < c.least {
			t.Error("so few are valid: ", valid)
		}
	}
}

// grownCode is valid code of all steps, mostly of those that use words, which are mostly small, so that few of them trap.
func grownCode(pick func(int) int) []impl.Step {
	often := []int{1, 1, 1, 1, 1, 2, 2, 2, 2, 2, 3, 3, 4, 4, 5, 5, 6, 6, 7, 7, 8, 8, 9, 9, 10, 11, 11, 12, 12, 14, 15, 16, 16, 16, 17, 17, 20, 21, 21, 22}
	g := grower{pick: pick, often: often}
	g.part(0, 0, false)
	for i := range g.l {
		if x := &g.l[i]; x.Op == impl.WConst && pick(8) > 0 {
			x.N = pick(4)
		}
	}
	return g.l
}

// grownState is a good state whose words are mostly small.
func grownState(pick func(int) int) impl.State {
	word := func() int {
		if pick(8) == 0 {
			return pick(65536)
		}
		return pick(5)
	}
	s := impl.State{Locals: make([]int, 8), Mem: make([]int, 16), Told: make([]int, pick(4))}
	if pick(10) == 0 {
		s.Told = make([]int, 90+pick(11))
	}
	for _, list := range listsOf(&s) {
		for i := range *list {
			(*list)[i] = word()
		}
	}
	return s
}

// Promise 5: long code of all steps from states of all kinds, with many fuels.
func TestExecMixed(t *testing.T) {
	pick := someSource()
	var hows [4]int
	var ops [23]int
	cuts, again := 0, 0
	for range 3000 {
		l, s := grownCode(pick), grownState(pick)
		fuels := append(places(16), 16+pick(44), 60+pick(140), 2000)
		checkFuels(t, l, s, fuels)
		r := runByHand(l, s, 300)
		hows[r.how]++
		cuts += r.cuts
		for _, at := range r.done {
			ops[l[at].Op]++
		}
		if len(r.done) > len(l) {
			again++
		}
	}
	if slices.Min(hows[1:]) < 100 || slices.Min(ops[1:]) < 100 || cuts < 500 || again < 100 {
		t.Errorf("so few of: %v %v, %d words cut, %d with loops", hows, ops, cuts, again)
	}
}

// Promise 5: any two fuels, of code that tells much and goes round.
func TestExecMoreFuel(t *testing.T) {
	pick := someSource()
	for _, text := range []string{
		tellDown,
		"loop, get 0, out, get 0, const 1, add, set 0, br 0, end",
		"loop, get 0, const 16, less, if, get 0, get 0, store, get 0, const 1, add, set 0, br 1, end, end, const 3, load, out",
		"loop, block, get 0, table 0 1 0, end, get 0, const 1, add, set 0, get 0, out, get 0, const 20, less, brif 0, trap, end",
		"loop, loop, get 1, out, get 1, const 1, sub, set 1, get 1, brif 0, end, const 3, set 1, get 0, const 1, sub, set 0, get 0, brif 0, end",
	} {
		for range 200 {
			less := pick(2001)
			more := less + pick(2001-less)
			checkGoesOn(t, code(text), stateOf(pick(9), 1+pick(5)), less, more)
		}
		for fuel := range 120 {
			checkGoesOn(t, code(text), stateOf(3, 2), fuel, fuel+1)
		}
	}
}

// Promise 5: code without what is dead runs alike: what was dead is not come to.
func TestExecWithoutDead(t *testing.T) {
	pick := someSource()
	for range 1000 {
		l, s := grownCode(pick), grownState(pick)
		cut, _ := impl.CutDead(l)
		_, how, _, _ := impl.RunSteps(l, s, 500)
		if same, ok := impl.SameRuns(l, cut, s, 500); ok != (how != impl.OutFuel) || same != ok {
			t.Fatalf("SameRuns(%v, %v, %v): %v %v", l, cut, s, same, ok)
		}
		reaches, _ := impl.ReachesOf(l)
		done, _ := impl.StepsDone(l, s, 500)
		for _, at := range done {
			if !reaches[at] {
				t.Fatalf("StepsDone(%v): %d is dead", l, at)
			}
		}
	}
}

// Promise 5: SameRuns of two pieces of grown code of one shape, with other words, locals and ops.
func TestExecSameRunsMixed(t *testing.T) {
	pick := someSource()
	var answers [3]int
	for range 4000 {
		l, s := grownCode(pick), grownState(pick)
		other := copySteps(l)
		for i := range other {
			switch x := &other[i]; {
			case x.Op == impl.WConst:
				x.N = pick(4)
			case x.Op == impl.WGet || x.Op == impl.WSet:
				x.N = pick(8)
			case x.Op >= impl.WAdd && x.Op <= impl.WEq:
				x.Op = impl.WAdd + pick(6)
			}
		}
		first, second := runByHand(l, s, 100), runByHand(other, s, 100)
		wantOk := first.how != 3 && second.how != 3
		want := wantOk && first.how == second.how && sameStates(first.s, second.s)
		if same, ok := impl.SameRuns(l, other, s, 100); same != want || ok != wantOk {
			t.Fatalf("SameRuns(%v, %v, %v): %v %v, not %v %v", l, other, s, same, ok, want, wantOk)
		}
		switch {
		case !wantOk:
			answers[0]++
		case want:
			answers[1]++
		default:
			answers[2]++
		}
	}
	if slices.Min(answers[:]) < 100 {
		t.Error("so few of: ", answers)
	}
}

// Promise 19: nil lists and empty ones are alike.
func TestExecOfNothing(t *testing.T) {
	for _, l := range [][]impl.Step{nil, {}, code("drop")[:0]} {
		for _, told := range [][]int{nil, {}, places(2)[:0]} {
			s := stateOf(1, 2)
			s.Told = told
			for _, fuel := range []int{0, 1, 2000} {
				got, how, many, ok := impl.RunSteps(l, s, fuel)
				if !sameStates(got, stateOf(1, 2)) || how != impl.OutEnd || many != 0 || !ok {
					t.Error(l, s, fuel, got, how, many, ok)
				}
				if done, ok := impl.StepsDone(l, s, fuel); len(done) != 0 || !ok {
					t.Error(done, ok)
				}
				if same, ok := impl.SameRuns(l, nil, s, fuel); !same || !ok {
					t.Error(same, ok)
				}
			}
			if !impl.GoodState(s) {
				t.Error(s)
			}
		}
	}
	for _, table := range [][]int{nil, {}} {
		l := []impl.Step{{Op: impl.WConst, N: 1, Table: table}, {Op: impl.WOut, Table: table}}
		if got, how, many, ok := impl.RunSteps(l, stateOf(0, 0), 5); !slices.Equal(got.Told, []int{1}) || how != impl.OutEnd || many != 2 || !ok {
			t.Error(got, how, many, ok)
		}
		checkNoRun(t, []impl.Step{{Op: impl.WConst, N: 1}, {Op: impl.WTable, Table: table}}, stateOf(0, 0), 5)
		checkNoRun(t, nil, impl.State{Locals: table, Mem: table, Told: table}, 5)
	}
}

const busy = "block, get 0, table 0 1 1, end, const 5, set 0, const 6, set 7, const 0, const 7, store, const 15, const 8, store, const 9, out, const 10, out"

// Promise 19: no list that is handed in is changed, nor what lies behind it, nor a Table; and that tells nothing.
func TestExecListsStay(t *testing.T) {
	table := []int{0, 1, 99, 98}
	l := code(busy)
	l[2].Table = table[:2]
	memory := append(l, step(99, 98, 97), impl.Step{Op: -5})
	stepsBefore := copySteps(memory)
	locals, mem, told := slices.Repeat([]int{-5}, 12), slices.Repeat([]int{-6}, 20), slices.Repeat([]int{-7}, 110)
	copy(locals, places(8))
	copy(mem, places(16))
	copy(told, []int{3, 4, 5})
	before := copyOfState(impl.State{Locals: locals, Mem: mem, Told: told})
	s := impl.State{Locals: locals[:8], Mem: mem[:16], Told: told[:3]}
	want := impl.State{Locals: []int{5, 1, 2, 3, 4, 5, 6, 6}, Mem: places(16), Told: []int{3, 4, 5, 9, 10}}
	want.Mem[0], want.Mem[15] = 7, 8
	if !impl.GoodState(s) || impl.GoodState(impl.State{Locals: locals, Mem: mem, Told: told}) {
		t.Error(s)
	}
	for fuel := -1; fuel < 40; fuel++ {
		got, _, _, _ := impl.RunSteps(memory[:len(l)], s, fuel)
		if fuel >= 18 && !sameStates(got, want) {
			t.Error(fuel, got)
		}
		impl.StepsDone(memory[:len(l)], s, fuel)
		impl.SameRuns(memory[:len(l)], memory[:len(l)], s, fuel)
		checkNoRun(t, memory, s, fuel)
		if now := (impl.State{Locals: locals, Mem: mem, Told: told}); !sameStates(now, before) {
			t.Fatal(fuel, now)
		}
	}
	if !sameSteps(memory, stepsBefore) || !slices.Equal(table, []int{0, 1, 99, 98}) {
		t.Error(memory, table)
	}
}

// Promise 19: the lists of a state that is told share no memory with those handed in, nor with each other, nor with another answer.
func TestExecStatesAreNew(t *testing.T) {
	s := fullState()
	s.Told = s.Told[:5:100]
	before := copyOfState(s)
	asks := []func() (impl.State, bool){
		func() (impl.State, bool) { return impl.NewState(3, 4) },
	}
	for _, text := range []string{"", "trap", busy, "loop, br 0, end"} {
		asks = append(asks, func() (impl.State, bool) {
			got, _, _, ok := impl.RunSteps(code(text), s, 30)
			return got, ok
		})
	}
	for _, ask := range asks {
		want, ok := ask()
		want = copyOfState(want)
		for which := range 3 {
			first, _ := ask()
			second, _ := ask()
			for i, list := range listsOf(&first) {
				if got := (*list)[:cap(*list)][len(*list):]; slices.Contains(got, 7) {
					t.Errorf("behind list %d: %v", i, got)
				}
			}
			spoilNumbers(*listsOf(&first)[which])
			for i := range 3 {
				if i != which && !slices.Equal(*listsOf(&first)[i], *listsOf(&want)[i]) {
					t.Error(which, i, first)
				}
			}
			if third, _ := ask(); !sameStates(second, want) || !sameStates(third, want) || !ok {
				t.Error(which, second, third)
			}
			if !sameStates(s, before) || !slices.Equal(s.Told[:100], slices.Repeat([]int{7}, 100)) {
				t.Fatal(which, s)
			}
		}
	}
}

// Promise 19: a state whose lists lie in one memory is run as any other.
func TestExecSharedState(t *testing.T) {
	memory := slices.Repeat([]int{2}, 30)
	s := impl.State{Locals: memory[:8], Mem: memory[4:20], Told: memory[2:5]}
	if !impl.GoodState(s) {
		t.Error(s)
	}
	checkRun(t, code(busy), s, 100)
	got, _, _, _ := impl.RunSteps(code("const 60, set 7, const 0, const 61, store, const 62, out"), s, 100)
	want := impl.State{Locals: slices.Repeat([]int{2}, 8), Mem: slices.Repeat([]int{2}, 16), Told: []int{2, 2, 2, 62}}
	want.Locals[7], want.Mem[0] = 60, 61
	if !sameStates(got, want) || !slices.Equal(memory, slices.Repeat([]int{2}, 30)) {
		t.Error(got, memory)
	}
}

// Promise 19: the places that StepsDone tells are new each time.
func TestExecPlacesAreNew(t *testing.T) {
	l, s := code(busy), stateOf(1, 0)
	first, _ := impl.StepsDone(l, s, 30)
	second, _ := impl.StepsDone(l, s, 30)
	want := slices.Clone(second)
	spoilNumbers(first)
	if third, _ := impl.StepsDone(l, s, 30); !slices.Equal(second, want) || !slices.Equal(third, want) {
		t.Error(second, third)
	}
	if !sameStates(s, stateOf(1, 0)) || !sameSteps(l, code(busy)) {
		t.Error(s, l)
	}
}

// Promise 19: each Op at each place of code, whatever it has: it runs where it is valid, and has the zero answer elsewhere.
func TestExecAnything(t *testing.T) {
	frame := code("const 1, const 1, block, const 1, if, const 1, drop, else, br 0, drop, end, end, store")
	for _, op := range []int{math.MinInt, -1, 0, 1, 2, 3, 4, 7, 10, 11, 12, 13, 14, 15, 16, 17, 18, 19, 20, 21, 22, 23, math.MaxInt} {
		for _, n := range []int{math.MinInt, -1, 0, 1, 9, 65535, 65536, math.MaxInt} {
			for _, table := range [][]int{nil, {}, {0}, {-1}, {1, 2, 9}, {0, 0, 0, 0, 0}} {
				x := step(op, n, table...)
				for at := range frame {
					l := copySteps(frame)
					l[at] = x
					for _, l := range [][]impl.Step{l, slices.Insert(copySteps(frame), at, x)} {
						if validByHand(l).code == 0 {
							checkRun(t, l, stateOf(1, 0), 30)
						} else {
							checkNoRun(t, l, stateOf(1, 0), 30)
						}
					}
				}
			}
		}
	}
}
