package tests

import (
	"math"
	"slices"
	"strconv"
	"strings"
	"testing"

	"loop.example/g00373/impl"
)

// passNames are what the passes do, in their order: the second one does two things.
var passNames = []string{"fold", "use", "trim", "hoist", "drop"}

// hoistAllByHand moves steps as long as one may be; of a shape that can't be reduced none is.
func hoistAllByHand(s impl.Ssa) (impl.Ssa, int) {
	h, many := hoistByHand(s), 0
	for is := h.reducible; is; many++ {
		if s, _, is = h.once(s); !is {
			break
		}
	}
	return s, many
}

// passByHand does one pass; it tells how many things it did, by their kinds.
func passByHand(s impl.Ssa, pass int) (impl.Ssa, [5]int) {
	var many [5]int
	switch pass {
	case 1:
		s, many[0] = foldByHand(s)
	case 2:
		s, many[1] = sameByHand(s).useFirst()
		s, many[2] = trimParamsByHand(s)
	case 4:
		s, many[3] = hoistAllByHand(s)
	case 8:
		s, many[4] = dropByHand(s)
	}
	return s, many
}

// passed is a good ssa, and what each set of passes makes of it.
type passed struct {
	s    impl.Ssa
	made [16]impl.Ssa
	many [16][5]int // how many things were done, by their kinds
}

// passedByHand goes from each set of passes to that with one pass more, behind all others.
func passedByHand(s impl.Ssa) passed {
	x := passed{s: s}
	x.made[0] = copySsa(s)
	for _, pass := range []int{1, 2, 4, 8} {
		for before := range pass {
			made, many := passByHand(x.made[before], pass)
			for kind := range many {
				many[kind] += x.many[before][kind]
			}
			x.made[before+pass], x.many[before+pass] = made, many
		}
	}
	return x
}

// all tells how many things a set of passes does.
func (x passed) all(passes int) int {
	many := 0
	for _, n := range x.many[passes] {
		many += n
	}
	return many
}

// wrongPasses are numbers that are no passes.
func wrongPasses() []int {
	return []int{math.MinInt, math.MinInt + 15, -1 << 32, -65536, -16, -15, -8, -2, -1, 16, 17, 18, 20, 24, 31, 32, 64, 255, 256, 1 << 32, 1<<32 + 1, math.MaxInt - 1, math.MaxInt}
}

// checkNoPasses looks for the zero answer of PassesOver.
func checkNoPasses(t *testing.T, s impl.Ssa, passes ...int) {
	t.Helper()
	before := copySsa(s)
	for _, p := range passes {
		if got, many, ok := impl.PassesOver(s, p); len(got.Parts) != 0 || got.Values != 0 || many != 0 || ok {
			t.Errorf("PassesOver(%v, %d): %v %d %v", s, p, got, many, ok)
		}
	}
	if !sameSsa(s, before) {
		t.Errorf("%v was %v", s, before)
	}
}

// checkPassed holds PassesOver of a good ssa, by each set of passes, against what is worked out by hand.
func checkPassed(t *testing.T, s impl.Ssa) passed {
	t.Helper()
	before, x := copySsa(s), passedByHand(s)
	for p, want := range x.made {
		got, many, ok := impl.PassesOver(s, p)
		if !sameSsa(got, want) || many != x.all(p) || !ok {
			t.Fatalf("PassesOver(%v, %d): %v %d %v, not %v %v", s, p, got, many, ok, want, x.many[p])
		}
		if !impl.GoodSsa(got) || !goodSsaByHand(got) {
			t.Fatalf("PassesOver(%v, %d): %v is not good", s, p, got)
		}
	}
	checkNoPasses(t, s, -1, 16)
	if !sameSsa(s, before) {
		t.Fatalf("%v was %v", s, before)
	}
	return x
}

// movedOrGone tells the values that come to be elsewhere, or nowhere.
func movedOrGone(s impl.Ssa, made impl.Ssa) []int {
	var values []int
	now := defsByHand(made)
	for value, def := range defsByHand(s) {
		if def != now[value] {
			values = append(values, value)
		}
	}
	return values
}

// checkSsaRuns is promise 17 of what passes make of an ssa: it has as many parts, so with any fuel it is as far; all values have the words that they had, but those that are moved or gone.
func (x passed) checkSsaRuns(t *testing.T, state impl.State, fuel int) {
	t.Helper()
	before := copyOfState(state)
	for p, made := range x.made {
		if !slices.ContainsFunc(x.made[:p], func(other impl.Ssa) bool { return sameSsa(other, made) }) {
			checkSameTold(t, x.s, made, movedOrGone(x.s, made), state, fuel)
		}
	}
	if !sameStates(state, before) {
		t.Fatalf("%v was %v", state, before)
	}
}

// ssaOfByHand tells the ssa of valid code; false, where it has too many parts or values.
func ssaOfByHand(l []impl.Step) (impl.Ssa, bool) {
	s := makeByHand(joinByHand(liftByHand(l)))
	if len(s.Parts) > 11 || s.Values > 250 {
		return impl.Ssa{}, false
	}
	s, _ = trimParamsByHand(s)
	return s, true
}

// cutByHand tells valid code without what is dead.
func cutByHand(l []impl.Step) []impl.Step {
	var cut []impl.Step
	for at, stays := range staysByHand(validByHand(l)) {
		if stays {
			cut = append(cut, l[at])
		}
	}
	return cut
}

// optimised is valid code, and what each set of passes makes of it.
type optimised struct {
	passed // of its ssa, where there is one
	l, cut []impl.Step
	codes  [16][]impl.Step
	ats    [16]int
	whys   [16]string // why it is no farther; nothing, where it comes to the end
}

func optimisedByHand(l []impl.Step) *optimised {
	x := &optimised{l: l, cut: cutByHand(l)}
	s, can := ssaOfByHand(l)
	if can {
		x.passed = passedByHand(s)
	}
	for p := range 16 {
		x.codes[p] = x.cut
		if !can {
			x.ats[p], x.whys[p] = 2, "ssa"
			continue
		}
		back := backByHand(x.made[p])
		if x.ats[p], x.whys[p] = 3, back.why; back.why != "" {
			continue
		}
		code := restoredByHand(joinByHand(back.f))
		if x.ats[p], x.whys[p] = 4, code.why; code.why != "" {
			continue
		}
		x.ats[p], x.codes[p] = 5, code.l
	}
	return x
}

// shorter tells the code of a set of passes, or that without what is dead alone.
func (x *optimised) shorter(passes int) []impl.Step {
	if len(x.cut) <= len(x.codes[passes]) {
		return x.cut
	}
	return x.codes[passes]
}

// checkSsaOf holds SsaOf against what is worked out by hand.
func (x *optimised) checkSsaOf(t *testing.T) {
	t.Helper()
	got, ok := impl.SsaOf(x.l)
	if can := x.ats[0] > 2; !sameSsa(got, x.s) || ok != can {
		t.Fatalf("SsaOf(%v): %v %v, not %v %v", x.l, got, ok, x.s, can)
	}
	if is, known := impl.IsTrim(got); is != ok || known != ok {
		t.Fatalf("SsaOf(%v): %v %v", x.l, got, ok)
	}
}

// checkCode holds the code of a set of passes against what is worked out by hand; it has to be valid.
func (x *optimised) checkCode(t *testing.T, passes int) {
	t.Helper()
	want := x.codes[passes]
	got, at, ok := impl.Optimise(x.l, passes)
	if !sameSteps(got, want) || at != x.ats[passes] || !ok {
		t.Fatalf("Optimise(%v, %d): %v %d %v, not %v %d (%s)", x.l, passes, got, at, ok, want, x.ats[passes], x.whys[passes])
	}
	shorter, ok := impl.Shorter(x.l, passes)
	if !sameSteps(shorter, x.shorter(passes)) || !ok || len(shorter) > min(len(want), len(x.cut)) {
		t.Fatalf("Shorter(%v, %d): %v %v, not %v", x.l, passes, shorter, ok, x.shorter(passes))
	}
	for _, l := range [][]impl.Step{got, shorter} {
		if code, place, ok := impl.ValidSteps(l); code != 0 || place != 0 || !ok || validByHand(l).code != 0 {
			t.Fatalf("%v of %v by %d is not valid: %d at %d", l, x.l, passes, code, place)
		}
	}
}

// checkBytes holds OptimiseBytes of any text at all against what is worked out by hand; it tells whether that tells true.
func checkBytes(t *testing.T, s string, passes int) bool {
	t.Helper()
	l, code := stepsByHand(s)
	if len(s) > 400 || code != 0 || validByHand(l).code != 0 || passes < 0 || passes > 15 {
		checkNoBytes(t, s, passes)
		return false
	}
	checkBytesOf(t, s, passes, optimisedByHand(l).codes[passes])
	return true
}

// checkBytesOf looks for the bytes of code, which read back.
func checkBytesOf(t *testing.T, s string, passes int, want []impl.Step) {
	t.Helper()
	got, ok := impl.OptimiseBytes(s, passes)
	if got != codeByHand(want) || !ok {
		t.Fatalf("OptimiseBytes(%x, %d): %x %v, not those of %v", s, passes, got, ok, want)
	}
	if back, code, ok := impl.ReadSteps(got); !sameSteps(back, want) || code != 0 || !ok {
		t.Fatalf("OptimiseBytes(%x, %d): %x is %v %d %v, not %v", s, passes, got, back, code, ok, want)
	}
}

// checkNoBytes looks for the zero answer.
func checkNoBytes(t *testing.T, s string, passes int) {
	t.Helper()
	if got, ok := impl.OptimiseBytes(s, passes); got != "" || ok {
		t.Fatalf("OptimiseBytes(%x, %d): %x %v", s, passes, got, ok)
	}
}

// checkOptimised holds all that is told of valid code, by each set of passes, against what is worked out by hand.
func checkOptimised(t *testing.T, l []impl.Step) *optimised {
	t.Helper()
	before, x := copySteps(l), optimisedByHand(l)
	x.checkSsaOf(t)
	for p := range 16 {
		x.checkCode(t, p)
		if s := codeByHand(l); len(s) <= 400 {
			checkBytesOf(t, s, p, x.codes[p])
		} else {
			checkNoBytes(t, s, p)
		}
	}
	if x.ats[0] > 2 {
		checkPassed(t, x.s)
	}
	for _, p := range []int{-1, 16} {
		checkWrongPasses(t, l, p)
	}
	if !sameSteps(l, before) {
		t.Fatalf("%v was %v", l, before)
	}
	return x
}

// checkWrongPasses looks for the zero answers of any code at all, the passes being none.
func checkWrongPasses(t *testing.T, l []impl.Step, passes int) {
	t.Helper()
	before := copySteps(l)
	if got, at, ok := impl.Optimise(l, passes); len(got) != 0 || at != 0 || ok {
		t.Errorf("Optimise(%v, %d): %v %d %v", l, passes, got, at, ok)
	}
	if got, ok := impl.Shorter(l, passes); len(got) != 0 || ok {
		t.Errorf("Shorter(%v, %d): %v %v", l, passes, got, ok)
	}
	if !sameSteps(l, before) {
		t.Errorf("%v was %v", l, before)
	}
}

// checkNoOptimise looks for the answers of code that is not valid.
func checkNoOptimise(t *testing.T, l []impl.Step) {
	t.Helper()
	before := copySteps(l)
	for p := range 16 {
		if got, at, ok := impl.Optimise(l, p); len(got) != 0 || at != 1 || ok {
			t.Errorf("Optimise(%v, %d): %v %d %v", l, p, got, at, ok)
		}
		if got, ok := impl.Shorter(l, p); len(got) != 0 || ok {
			t.Errorf("Shorter(%v, %d): %v %v", l, p, got, ok)
		}
	}
	for _, p := range []int{-1, 16} {
		checkWrongPasses(t, l, p)
	}
	if got, ok := impl.SsaOf(l); len(got.Parts) != 0 || got.Values != 0 || ok {
		t.Errorf("SsaOf(%v): %v %v", l, got, ok)
	}
	for _, other := range [][]impl.Step{nil, l} {
		checkAlikeIs(t, l, other, stateOf(1, 2), 10, false, false)
	}
	if !sameSteps(l, before) {
		t.Errorf("%v was %v", l, before)
	}
}

// alikeByHand tells what Alike tells of valid code, a good state, and fuel as said.
func alikeByHand(a []impl.Step, b []impl.Step, s impl.State, fuel int) (bool, bool) {
	x, y := runByHand(a, s, fuel), runByHand(b, s, fuel)
	if x.how == 3 || y.how == 3 {
		return false, false
	}
	unlike := x.how != y.how || !slices.Equal(x.s.Mem, y.s.Mem) || !slices.Equal(x.s.Told, y.s.Told)
	return !unlike && (x.how == 2 || slices.Equal(x.s.Locals[:3], y.s.Locals[:3])), true
}

// checkAlikeIs asks of two runs, each of them being the first one once.
func checkAlikeIs(t *testing.T, a []impl.Step, b []impl.Step, s impl.State, fuel int, want bool, wantOk bool) {
	t.Helper()
	stateBefore, aBefore, bBefore := copyOfState(s), copySteps(a), copySteps(b)
	for _, two := range [][2][]impl.Step{{a, b}, {b, a}} {
		if is, ok := impl.Alike(two[0], two[1], s, fuel); is != want || ok != wantOk {
			t.Fatalf("Alike(%v, %v, %v, %d): %v %v, not %v %v", two[0], two[1], s, fuel, is, ok, want, wantOk)
		}
	}
	if !sameStates(s, stateBefore) || !sameSteps(a, aBefore) || !sameSteps(b, bBefore) {
		t.Fatalf("%v, %v, %v were %v, %v, %v", a, b, s, aBefore, bBefore, stateBefore)
	}
}

// checkAlike holds Alike of valid code, a good state, and fuel as said, against what is worked out by hand.
func checkAlike(t *testing.T, a []impl.Step, b []impl.Step, s impl.State, fuel int) (bool, bool) {
	t.Helper()
	want, wantOk := alikeByHand(a, b, s, fuel)
	checkAlikeIs(t, a, b, s, fuel, want, wantOk)
	return want, wantOk
}

// checkCodeRuns is promise 17 of code: by whatever passes it went, it does the same, where fuel suffices for both. It tells how the code comes out.
func (x *optimised) checkCodeRuns(t *testing.T, state impl.State, fuel int) int {
	t.Helper()
	r := runByHand(x.l, state, fuel)
	var met [][]impl.Step
	for p := range 16 {
		for _, l := range [][]impl.Step{x.codes[p], x.shorter(p)} {
			if slices.ContainsFunc(met, func(other []impl.Step) bool { return sameSteps(l, other) }) {
				continue
			}
			met = append(met, l)
			if is, ok := checkAlike(t, x.l, l, state, fuel); !is && ok {
				t.Fatalf("%v, by %d %v, of %v: not alike", x.l, p, l, state)
			}
			got, how, _, ok := impl.RunSteps(l, state, impl.MaxFuel)
			if !ok {
				t.Fatalf("RunSteps(%v, %v)", l, state)
			}
			if r.how != 3 && how != 3 {
				checkSameKept(t, l, got, how, r.s, r.how)
			}
		}
	}
	return r.how
}

// Promise 17: the constants are as the document has them.
func TestOptConstants(t *testing.T) {
	got := []int{impl.PassFold, impl.PassSame, impl.PassHoist, impl.PassDrop, impl.AtValid, impl.AtSsa, impl.AtBack, impl.AtStruct, impl.AtEnd}
	if !slices.Equal(got, []int{1, 2, 4, 8, 1, 2, 3, 4, 5}) {
		t.Error(got)
	}
}

// someStates are states from which written code is run.
func someStates() []impl.State {
	return []impl.State{stateOf(0, 0), stateOf(1, 2), stateOf(4, 1), stateOf(2, 0), risingState(), fullState()}
}

// liftedCase is code, and its ssa.
type liftedCase struct {
	code   string
	values int
	ssa    string
}

// Promise 17: code of all kinds as an ssa; code without steps; what is dead, what blocks join, and what Params are needless does not matter.
func TestOptSsaOf(t *testing.T) {
	for _, c := range []liftedCase{
		{"", 24, "to 1; end 0 1 2"}, {"trap", 24, "to 1; trap"}, {"br 0", 24, "to 1; end 0 1 2"}, {"trap, const 1, out", 24, "to 1; trap"},
		{"get 3, out", 25, "to 1; copy 24 3, out 24, end 0 1 2"}, {"const 7, set 0", 26, "to 1; const 24 7, copy 25 24, end 25 1 2"},
		{"get 0, get 1, set 0, set 1", 28, "to 1; copy 24 0, copy 25 1, copy 26 25, copy 27 24, end 26 27 2"},
		{"const 2, const 3, add, out, br 0, trap", 27, "to 1; const 24 2, const 25 3, add 26 24 25, out 26, end 0 1 2"},
		{"get 0, load, out, get 0, get 1, store", 28, "to 1; copy 24 0, load 25 24, out 25, copy 26 0, copy 27 1, store 26 27, end 0 1 2"},
		{"get 0, get 1, div, set 0, trap", 28, "to 1; copy 24 0, copy 25 1, div 26 24 25, copy 27 26, trap"},
		{"block, block, get 0, table 0 1, end, const 1, out, br 0, end, const 2, out", 51, "to 1; copy 24 0, table 24 2 3(24); const 37 1, out 37, to 3(37); with 46, const 50 2, out 50, end 0 1 2"},
		{many("block", 8) + many("end", 8) + "get 0, drop", 25, "to 1; copy 24 0, end 0 1 2"},
		{"get 0, if, const 5, set 1, else, const 6, set 1, end, get 1, out", 66, "to 1; copy 24 0, if 24 2 3; const 37 5, copy 38 37, to 4(38 37); const 51 6, copy 52 51, to 4(52 51); with 54 61, copy 65 54, out 65, end 0 54 2"},
		{"loop, get 0, out, get 0, const 1, sub, set 0, get 0, brif 0, end", 54, "to 1; to 2(0 8 9); with 24 32 33, copy 36 24, out 36, copy 37 24, const 38 1, sub 39 37 38, copy 40 39, copy 41 40, if 41 2(40 41 38) 3; end 40 1 2"},
	} {
		x := checkOptimised(t, code(c.code))
		if got, ok := impl.SsaOf(x.l); !sameSsa(got, ssa(c.values, c.ssa)) || !ok {
			t.Errorf("SsaOf(%s): %v %v, not %s", c.code, got, ok, c.ssa)
		}
		for _, state := range someStates() {
			x.checkCodeRuns(t, state, 500)
			x.checkSsaRuns(t, state, 60)
		}
	}
}

// Promise 17: code that comes to as many parts as may be, and to one more; a flow as great as there is; and as many values as can be.
func TestOptSsaOfMost(t *testing.T) {
	jumps := func(often int) string { return many("get 0, brif 0", often) }
	for _, c := range []struct {
		text  string
		parts int // 0: there is no ssa
	}{
		{jumps(1), 3}, {jumps(8), 10}, {jumps(9), 11}, {jumps(10), 0}, {jumps(11), 0}, {jumps(30), 0},
		{"get 0, trap, " + jumps(29), 2}, {jumps(9) + "trap", 0}, {jumps(8) + "trap", 11}, {jumps(8) + "br 0, " + jumps(20), 11}, {jumps(9) + "br 0, " + jumps(20), 0},
		{many("block, end", 30), 2}, {many("loop, end", 30), 2}, {many("loop, br 1, end", 20), 2}, {many("get 0, if, end", 5), 0}, {many("get 0, if, end", 4), 10},
		{many("loop, get 0, brif 0, end", 4), 10}, {many("loop, get 0, brif 0, end", 5), 0}, {many("loop, get 0, brif 0, end", 15), 0}, {many("const 1, if, trap, end", 15), 0},
		// a block that does not take another one, as it would have too many steps, there can't be: all code has no more than they may have
		{many("get 0, set 1, block, end", 15), 2},
	} {
		x := checkOptimised(t, code(c.text))
		if got, ok := impl.SsaOf(x.l); len(got.Parts) != c.parts || ok != (c.parts > 0) {
			t.Errorf("SsaOf(%s): %v %v, not %d parts", c.text, got, ok, c.parts)
		}
		if want := min(c.parts, 1) + 2; min(x.ats[0], 3) != want || len(x.cut) == 0 {
			t.Errorf("%s: %d, not %d", c.text, x.ats[0], want)
		}
	}
	full := checkOptimised(t, code(jumps(8)+many("get 0, set 0", 22)))
	if len(full.s.Parts) != 11 || full.s.Values != 12+10*12+8+44 {
		t.Error(len(full.s.Parts), full.s.Values)
	}
}

// passedCase is an ssa, how many things each set of passes does, and what some of them make of it.
type passedCase struct {
	values int
	ssa    string
	many   string
	made   map[int]string
}

func checkPassedCases(t *testing.T, cases []passedCase) {
	t.Helper()
	for _, c := range cases {
		s := ssa(c.values, c.ssa)
		x := checkPassed(t, s)
		for p, want := range numbersOf(strings.Fields(c.many)) {
			if got, many, ok := impl.PassesOver(s, p); many != want || !ok {
				t.Errorf("PassesOver(%s, %d): %v %d %v, not %d", c.ssa, p, got, many, ok, want)
			}
		}
		for p, text := range c.made {
			if got, _, _ := impl.PassesOver(s, p); !sameSsa(got, ssa(c.values, text)) {
				t.Errorf("PassesOver(%s, %d): %v, not %s", c.ssa, p, got, text)
			}
		}
		for _, state := range someStates() {
			for _, fuel := range []int{0, 1, 2, 3, 5, 20} {
				x.checkSsaRuns(t, state, fuel)
			}
		}
	}
}

// Promise 17: each pass alone, and all sets of them: of an ssa at which each changes something, of such at which one does, or none; each pass goes over once.
func TestOptPasses(t *testing.T) {
	round := "const 12 2, const 13 3, mul 14 12 13, to 1(0 14); with 15 16, const 17 6, add 18 1 17, copy 19 16, out 18, sub 20 15 17, eq 21 0 1, if 20 1(20 19) 2; end 18 1 2"
	checkPassedCases(t, []passedCase{
		{22, round, "0 1 2 5 3 4 6 9 1 4 7 10 4 7 11 14", map[int]string{
			0:  round,
			1:  "const 12 2, const 13 3, const 14 6, to 1(0 14); with 15 16, const 17 6, add 18 1 17, copy 19 16, out 18, sub 20 15 17, eq 21 0 1, if 20 1(20 19) 2; end 18 1 2",
			2:  "const 12 2, const 13 3, mul 14 12 13, to 1(0); with 15, const 17 6, add 18 1 17, copy 19 14, out 18, sub 20 15 17, eq 21 0 1, if 20 1(20) 2; end 18 1 2",
			4:  "const 12 2, const 13 3, mul 14 12 13, const 17 6, add 18 1 17, eq 21 0 1, to 1(0 14); with 15 16, copy 19 16, out 18, sub 20 15 17, if 20 1(20 19) 2; end 18 1 2",
			8:  "const 12 2, const 13 3, mul 14 12 13, to 1(0 14); with 15 16, const 17 6, add 18 1 17, copy 19 16, out 18, sub 20 15 17, if 20 1(20 19) 2; end 18 1 2",
			3:  "const 12 2, const 13 3, const 14 6, to 1(0); with 15, const 17 6, add 18 1 14, copy 19 14, out 18, sub 20 15 14, eq 21 0 1, if 20 1(20) 2; end 18 1 2",
			6:  "const 12 2, const 13 3, mul 14 12 13, const 17 6, add 18 1 17, copy 19 14, eq 21 0 1, to 1(0); with 15, out 18, sub 20 15 17, if 20 1(20) 2; end 18 1 2",
			10: "to 1(0); with 15, const 17 6, add 18 1 17, out 18, sub 20 15 17, if 20 1(20) 2; end 18 1 2",
			15: "const 14 6, add 18 1 14, to 1(0); with 15, out 18, sub 20 15 14, if 20 1(20) 2; end 18 1 2",
		}},
		{12, "trap", many0, map[int]string{0: "trap", 15: "trap"}}, {12, "end 0 1 2", many0, nil}, {13, "load 12 0, store 12 0, end 0 1 2", many0, nil},
		// one of them alone has something to do
		{15, "const 12 2, const 13 3, mul 14 12 13, out 14, store 13 12, trap", "0 1 0 1 0 1 0 1 0 1 0 1 0 1 0 1", nil},
		{12, "end 9 10 11", "0 0 3 3 0 0 3 3 0 0 3 3 0 0 3 3", map[int]string{2: "end 8 8 8", 13: "end 9 10 11"}},
		{14, "to 1(0); with 12, const 13 5, out 13, if 12 1(13) 2; trap", "0 0 0 0 1 1 1 1 0 0 0 0 1 1 1 1", map[int]string{4: "const 13 5, to 1(0); with 12, out 13, if 12 1(13) 2; trap"}},
		{13, "const 12 5, trap", "0 0 0 0 0 0 0 0 1 1 1 1 1 1 1 1", map[int]string{7: "const 12 5, trap", 8: "trap"}},
		// what TrimParams tells, where UseFirst changes nothing, something, and what it needs
		{13, "to 1(3); with 12, end 12 12 1", "0 0 1 1 0 0 1 1 0 0 1 1 0 0 1 1", map[int]string{2: "to 1; end 3 3 1", 13: "to 1(3); with 12, end 12 12 1"}},
		{14, "copy 12 0, copy 13 12, end 13 12 2", "0 0 3 3 0 0 3 3 0 0 5 5 0 0 5 5", map[int]string{2: "copy 12 0, copy 13 0, end 0 0 2"}},
		{16, "copy 13 0, if 1 1(0) 2; with 12, out 12, to 3(12); copy 14 0, to 3(14); with 15, end 15 1 2", "0 0 3 3 0 0 3 3 1 1 5 5 1 1 5 5", map[int]string{2: "copy 13 0, if 1 1 2; out 0, to 3; copy 14 0, to 3; end 0 1 2"}},
	})
}

// many0 is nothing done, by any set of passes.
const many0 = "0 0 0 0 0 0 0 0 0 0 0 0 0 0 0 0"

// Promise 17: what one pass does lets one behind it do more, and what one behind does no one ahead of it.
func TestOptPassesInOrder(t *testing.T) {
	crowd := func(steps int) string {
		return "const 12 1, " + many("out 1", steps-1) + "to 1(0); with 13, const 14 5, out 14, if 13 1(14) 2; trap"
	}
	checkPassedCases(t, []passedCase{
		// a step that might trap is known: it may be moved
		{18, "to 1(0); with 12, const 13 6, const 14 3, div 15 13 14, add 16 15 1, out 16, sub 17 12 14, if 17 1(17) 2; end 0 1 2", "0 1 0 1 2 5 2 5 0 2 0 2 2 6 2 6", map[int]string{
			13: "const 14 3, const 15 2, add 16 15 1, to 1(0); with 12, out 16, sub 17 12 14, if 17 1(17) 2; end 0 1 2",
		}},
		// what was made ahead of the loop is used in it
		{17, "div 12 0 1, to 1(2); with 13, div 14 0 1, add 15 14 2, out 15, sub 16 13 2, if 16 1(16) 2; end 0 1 2", "0 0 1 1 0 0 2 2 0 0 1 1 0 0 2 2", map[int]string{
			6: "div 12 0 1, add 15 12 2, to 1(2); with 13, div 14 0 1, out 15, sub 16 13 2, if 16 1(16) 2; end 0 1 2",
		}},
		// what is known is the same
		{15, "const 12 2, add 13 12 12, const 14 4, out 13, out 14, trap", "0 1 0 2 0 1 0 2 0 2 0 4 0 2 0 4", map[int]string{3: "const 12 2, const 13 4, const 14 4, out 13, out 13, trap", 11: "const 13 4, out 13, out 13, trap"}},
		// it would be known by the first one, but that is behind
		{15, "const 12 2, copy 13 12, add 14 13 13, out 14, trap", "0 0 2 2 0 0 2 2 0 0 3 3 0 0 3 3", map[int]string{3: "const 12 2, copy 13 12, add 14 12 12, out 14, trap", 15: "const 12 2, add 14 12 12, out 14, trap"}},
		// there would be room for it, but that is let go behind
		{15, crowd(60), "0 0 0 0 0 0 0 0 1 1 1 1 1 1 1 1", nil}, {15, crowd(59), "0 0 0 0 1 1 1 1 1 1 1 1 2 2 2 2", nil},
	})
}

// Promise 17: a shape that can't be reduced: nothing is moved, all else is done, and it is told.
func TestOptPassesNotReducible(t *testing.T) {
	checkPassedCases(t, []passedCase{
		{12, "if 0 1 2; to 2; to 1", many0, map[int]string{4: "if 0 1 2; to 2; to 1"}},
		{13, "if 0 1 2; const 12 1, to 2; to 1", "0 0 0 0 0 0 0 0 1 1 1 1 1 1 1 1", map[int]string{4: "if 0 1 2; const 12 1, to 2; to 1", 12: "if 0 1 2; to 2; to 1"}},
		{16, "const 12 2, const 13 3, if 0 1 2; add 14 12 13, to 2; mul 15 12 12, out 15, to 1", "0 2 0 2 0 2 0 2 2 5 2 5 2 5 2 5", map[int]string{
			5: "const 12 2, const 13 3, if 0 1 2; const 14 5, to 2; const 15 4, out 15, to 1", 15: "if 0 1 2; to 2; const 15 4, out 15, to 1",
		}},
		{17, "const 12 2, to 1(0); with 13, const 14 2, out 14, copy 15 14, if 13 1(13) 2; if 0 3 4; const 16 2, to 4; out 15, to 3", "0 0 4 4 0 0 4 4 2 2 7 7 2 2 7 7", map[int]string{
			6: "const 12 2, to 1; const 14 2, out 12, copy 15 12, if 0 1 2; if 0 3 4; const 16 2, to 4; out 12, to 3",
		}},
	})
}

// Promises 17 and 19: ssas that are not good, and numbers that are no passes.
func TestOptPassesWrong(t *testing.T) {
	for _, s := range wrongSsas() {
		if impl.GoodSsa(s) {
			t.Fatal(s)
		}
		checkNoPasses(t, s, append(places(16), wrongPasses()...)...)
	}
	pick := someSource()
	for _, s := range []impl.Ssa{ssa(12, "trap"), ssa(12, "end 0 1 2"), fullSsa(), fullRounds(), grownSsa(pick), grownLooped(pick)} {
		checkPassed(t, s)
		checkNoPasses(t, s, wrongPasses()...)
	}
}

// betterCase is code, passes, how far these come, and the code that is told.
type betterCase struct {
	code   string
	passes int
	at     int
	better string
}

// Promise 17: code of all kinds by some passes.
func TestOptCode(t *testing.T) {
	out := "get 1, set 0, get 2, set 1, get 3, set 2, br 0"
	in := "get 2, set 3, get 1, set 2, get 0, set 1, "
	round := "loop, get 0, out, get 0, const 1, sub, set 0, get 0, brif 0, end"
	choice := "get 0, if, const 5, set 1, else, const 6, set 1, end, get 1, out"
	sum := "const 2, const 3, add, out, br 0, trap"
	for _, c := range []betterCase{
		{"", 0, 5, in + out}, {"", 15, 5, in + out}, {"br 0, trap", 15, 5, in + out}, {"trap", 0, 5, "trap"}, {"trap, const 1, out", 15, 5, "trap"},
		{sum, 0, 5, in + "const 2, set 4, const 3, set 5, get 4, get 5, add, set 4, get 4, out, " + out},
		{sum, 1, 5, in + "const 2, set 4, const 3, set 4, const 5, set 4, get 4, out, " + out}, {sum, 8, 5, in + "const 2, set 4, const 3, set 5, get 4, get 5, add, set 4, get 4, out, " + out},
		{sum, 9, 5, in + "const 5, set 4, get 4, out, " + out}, {sum, 15, 5, in + "const 5, set 4, get 4, out, " + out},
		{"const 7, set 0", 0, 5, "const 7, set 3, get 3, set 3, get 3, set 0, br 0"}, {"const 7, set 0", 2, 5, "const 7, set 3, get 3, set 4, get 3, set 0, br 0"}, {"const 7, set 0", 15, 5, "const 7, set 3, get 3, set 0, br 0"},
		{"get 0, get 1, set 0, set 1", 15, 5, in + "get 2, set 0, get 3, set 2, br 0"},
		{"get 0, out, trap", 0, 5, "get 0, set 1, get 1, set 1, get 1, out, trap"}, {"get 0, out, trap", 15, 5, "get 0, set 1, get 1, out, trap"},
		{round, 0, 5, in + "const 0, set 4, const 0, set 5, loop, get 1, set 4, get 4, out, get 1, set 1, const 1, set 4, get 1, get 4, sub, set 1, get 1, set 1, get 1, set 5, get 5, if, get 5, set 0, get 4, set 5, get 0, set 4, br 1, else, get 1, set 0, get 2, set 1, get 3, set 2, br 2, end, end"},
		{round, 4, 5, in + "const 0, set 4, const 0, set 5, const 1, set 6, loop, get 1, set 4, get 4, out, get 1, set 1, get 1, get 6, sub, set 1, get 1, set 1, get 1, set 4, get 4, if, get 6, set 5, br 1, else, get 1, set 0, get 2, set 1, get 3, set 2, br 2, end, end"},
		{round, 15, 5, in + "const 1, set 4, loop, get 1, out, get 1, get 4, sub, set 1, get 1, if, br 1, else, get 1, set 0, get 2, set 1, get 3, set 2, br 2, end, end"},
		{choice, 15, 5, "block, get 0, set 1, get 1, if, const 5, set 3, br 1, else, const 6, set 3, br 1, end, end, get 3, out, get 1, set 0, get 3, set 1, br 0"},
		// as it was, without what is dead
		{"get 3, get 4, get 5, get 6, add, add, add, out, br 0, trap, block, end", 15, 3, "get 3, get 4, get 5, get 6, add, add, add, out, br 0"},
		{many("get 0, brif 0", 10) + "trap, const 1, out, block, loop, end, end", 0, 2, many("get 0, brif 0", 10) + "trap"},
		{many("get 0, out", 28) + "trap, get 1, out", 0, 4, many("get 0, out", 28) + "trap"},
	} {
		x := checkOptimised(t, code(c.code))
		if got, at, ok := impl.Optimise(x.l, c.passes); !sameSteps(got, code(c.better)) || at != c.at || !ok {
			t.Errorf("Optimise(%s, %d): %v %d %v, not %s", c.code, c.passes, got, at, ok, c.better)
		}
		for _, state := range someStates() {
			x.checkCodeRuns(t, state, 500)
		}
	}
}

// Promise 17: how far code comes, by each set of passes, and why no farther.
func TestOptFar(t *testing.T) {
	jumps := func(often int) string { return many("get 0, brif 0", often) }
	nest := func(deep int) string { return many("loop", deep) + many("get 0, brif 0, end", deep) + "trap" }
	always := func(far string) string { return strings.Repeat(far+" ", 16) }
	four := func(far string) string { return strings.Repeat(far+" ", 4) }
	for _, c := range []struct{ text, far string }{
		{"", always("5")}, {nest(3), always("5")},
		// too many parts, at once, or where edges are split
		{jumps(10), always("2ssa")}, {nest(5), always("2ssa")}, {nest(4), "3parts 3parts 3parts 3parts 3parts 3parts 3parts 3parts 5 5 5 5 5 5 5 5"}, {jumps(6), "3parts 3parts 5 5 3parts 3parts 5 5 5 5 5 5 5 5 5 5"},
		// too many names, by some passes, or without them
		{"get 3, get 4, get 5, get 6, add, add, add, out", always("3names")}, {"get 3, get 4, get 5, add, add, out", "5 5 3names 3names 5 5 3names 3names 5 5 5 5 5 5 5 5"},
		{"const 1, const 2, const 3, const 4, add, add, add, out", strings.Repeat("3names 5 ", 8)}, {"get 3, set 4, get 3, set 5, get 3, set 6, get 3, set 7, get 4, get 5, get 6, get 7, add, add, add, out", four("3names 3names 5 5")},
		{"loop, get 0, const 1, sub, set 0, const 7, out, const 8, out, get 0, brif 0, end", "5 5 5 5 3names 3names 3names 3names 5 5 5 5 3names 3names 5 5"},
		// a block is too long
		{many("get 0, set 0", 30), "3long 3long 3long 3long 3long 3long 3long 3long 3long 3long 5 5 3long 3long 5 5"},
		// what is told is too long, or too deep
		{many("get 0, set 0", 27), "4long 4long 4long 4long 4long 4long 4long 4long 4long 4long 5 5 4long 4long 5 5"}, {many("get 0, load, out", 12), always("4long")},
		{jumps(7), "3parts 3parts 4long 4long 3parts 3parts 4long 4long 4long 4long 5 5 4long 4long 5 5"}, {jumps(8), "3parts 3parts 4deep 4deep 3parts 3parts 4deep 4deep 4deep 4deep 4deep 4deep 4deep 4deep 4deep 4deep"},
		{"loop, " + jumps(7) + "end", "3parts 3parts 3parts 3parts 3parts 3parts 3parts 3parts 4long 4long 5 5 3names 3names 5 5"},
	} {
		x := checkOptimised(t, code(c.text))
		for p, far := range strings.Fields(c.far) {
			if _, at, ok := impl.Optimise(x.l, p); strconv.Itoa(at)+x.whys[p] != far || !ok {
				t.Errorf("Optimise(%s, %d): %d %s %v, not %s", c.text, p, at, x.whys[p], ok, far)
			}
		}
		for _, state := range someStates() {
			x.checkCodeRuns(t, state, 500)
		}
	}
}

// Promise 17: code that becomes longer, shorter, or as long; what is dead does not count.
func TestOptShorter(t *testing.T) {
	for _, c := range []struct{ code, better, shorter string }{
		{"const 1, out, trap", "const 1, set 1, get 1, out, trap", "const 1, out, trap"},
		{"const 1, out, trap, get 1, out, get 1, out, trap, trap", "const 1, set 1, get 1, out, trap", "const 1, out, trap"},
		{"const 1, const 2, add, out, trap", "const 3, set 1, get 1, out, trap", "const 1, const 2, add, out, trap"},
		{"const 1, const 2, add, out, trap, trap", "const 3, set 1, get 1, out, trap", "const 1, const 2, add, out, trap"},
		{"const 1, const 2, add, const 3, drop, out, trap", "const 3, set 1, get 1, out, trap", "const 3, set 1, get 1, out, trap"},
		{"const 1, const 2, add, const 3, mul, out, trap", "const 9, set 1, get 1, out, trap", "const 9, set 1, get 1, out, trap"},
		{"block, const 1, const 2, add, out, end, trap, block, end", "const 3, set 1, get 1, out, trap", "const 3, set 1, get 1, out, trap"},
		{"block, block, trap, end, end, const 1, out", "trap", "trap"}, {"trap", "trap", "trap"}, {"block, trap, end", "trap", "trap"},
	} {
		x := checkOptimised(t, code(c.code))
		if got, ok := impl.Shorter(x.l, 15); !sameSteps(got, code(c.shorter)) || !ok || !sameSteps(x.codes[15], code(c.better)) {
			t.Errorf("Shorter(%s): %v %v, not %s, of %v", c.code, got, ok, c.shorter, x.codes[15])
		}
	}
}

// Promises 17 and 19: code that is not valid, and passes that are none, with any code at all.
func TestOptNotValid(t *testing.T) {
	for _, l := range append(notGood(), notValid()...) {
		checkNoOptimise(t, l)
	}
	for _, l := range [][]impl.Step{nil, code("trap"), code("const 1, out"), code(busy), code("drop"), code("end"), {{Op: 23}}, make([]impl.Step, 61)} {
		for _, p := range wrongPasses() {
			checkWrongPasses(t, l, p)
		}
	}
}

// Promise 17: runs that come out alike, and such as do not: three locals are looked at, where they end; none, where they trap.
func TestOptAlike(t *testing.T) {
	const endless = "loop, br 0, end"
	for _, c := range []sameCase{
		{"", "", true, true}, {"", "const 1, drop", true, true}, {"const 1, out", "const 3, const 2, sub, out", true, true}, {"get 0, set 1, get 1, set 0", "get 0, set 1", true, true},
		// locals in the end
		{"", "const 9, set 0", false, true}, {"", "const 9, set 1", false, true}, {"", "const 9, set 2", false, true}, {"const 8, set 2", "const 9, set 2", false, true},
		{"", "const 9, set 3", true, true}, {"", "const 9, set 4", true, true}, {"", "const 9, set 7", true, true}, {"const 8, set 3, const 7, set 5", "const 9, set 3, const 9, set 6", true, true},
		{"const 9, set 3", "const 9, set 2", false, true}, {"const 9, set 2, const 9, set 3", "const 9, set 2", true, true},
		// locals at a trap
		{"trap", "const 9, set 0, trap", true, true}, {"const 8, set 1, trap", "const 9, set 2, const 9, set 7, trap", true, true},
		// memory, in the end and at a trap
		{"", "const 0, const 9, store", false, true}, {"", "const 15, const 9, store", false, true}, {"const 1, const 2, store", "const 2, const 1, store", false, true}, {"const 3, const 2, store", "const 3, const 9, store, const 3, const 2, store", true, true},
		{"trap", "const 0, const 9, store, trap", false, true}, {"trap", "const 15, const 9, store, trap", false, true}, {"const 0, const 9, store, trap", "const 0, const 9, store, const 1, const 0, div, out", true, true},
		// what is told, in the end and at a trap
		{"", "const 0, out", false, true}, {"const 1, out", "const 2, out", false, true}, {"const 1, out, const 2, out", "const 2, out, const 1, out", false, true}, {"const 1, out, const 2, out", "const 1, out", false, true},
		{"trap", "const 0, out, trap", false, true}, {"const 1, out, trap", "const 1, out, const 16, load, out", true, true}, {"const 1, out, trap", "const 2, out, trap", false, true},
		// one ends and one traps
		{"", "trap", false, true}, {"const 1, out", "const 1, out, trap", false, true}, {"const 0, load, drop", "const 16, load, drop", false, true}, {"const 9, set 3", "const 9, set 3, trap", false, true},
		// fuel that runs out
		{"", endless, false, false}, {"trap", endless, false, false}, {endless, endless, false, false}, {"", many("block, end", 26), false, false}, {"", many("block, end", 25), true, true}, {"trap", many("block, end", 25), false, true},
		// code that is not valid
		{"", "drop", false, false}, {"", "const 1", false, false}, {"trap", "trap, const 1", false, false}, {"end", "end", false, false}, {"const 1", "const 1", false, false}, {endless, "drop", false, false},
	} {
		checkAlikeIs(t, code(c.a), code(c.b), stateOf(1, 2), 50, c.same, c.ok)
		if c.ok {
			checkAlike(t, code(c.a), code(c.b), stateOf(1, 2), 50)
		}
	}
}

// Promises 17 and 19: fuels from none to the most, and such as are none; each run needs as many steps as it has.
func TestOptAlikeFuels(t *testing.T) {
	l, longer := code("get 0, out"), code("get 0, const 0, add, out")
	for fuel := range 8 {
		checkAlikeIs(t, l, longer, stateOf(1, 2), fuel, fuel >= 4, fuel >= 4)
		checkAlikeIs(t, l, l, stateOf(1, 2), fuel, fuel >= 2, fuel >= 2)
		checkAlikeIs(t, nil, nil, stateOf(1, 2), fuel, true, true)
		checkAlikeIs(t, nil, code("trap"), stateOf(1, 2), fuel, false, fuel >= 1)
		checkAlikeIs(t, code("trap"), code("const 0, const 0, div, out"), stateOf(1, 2), fuel, fuel >= 3, fuel >= 3)
	}
	round := code("loop, get 0, const 1, sub, set 0, get 0, brif 0, end")
	for a, is := range map[int]bool{1: true, 332: true, 333: true, 334: false, 335: false, 0: false} {
		checkAlikeIs(t, round, round, stateOf(a, 2), impl.MaxFuel, is, is)
	}
	for _, fuel := range []int{math.MinInt, -2000, -2, -1, 2001, 2002, 1 << 32, math.MaxInt} {
		for _, text := range []string{"", "trap", "const 1, out", "loop, br 0, end", "drop"} {
			checkAlikeIs(t, nil, code(text), stateOf(1, 2), fuel, false, false)
			checkAlikeIs(t, code(text), code(text), stateOf(1, 2), fuel, false, false)
		}
	}
}

// Promises 17 and 19: one pair from many states, from one that is as full as may be, and from such as are not good.
func TestOptAlikeStates(t *testing.T) {
	a, b := code("get 0, get 1, div, set 0, get 0, out"), code("get 0, get 1, less, if, const 0, set 0, const 0, out, else, const 1, set 0, const 1, out, end")
	for x := range 12 {
		for y := range 12 {
			checkAlikeIs(t, a, b, stateOf(x, y), 20, y > 0 && x < 2*y, true)
		}
	}
	full := fullState()
	checkAlikeIs(t, code("const 1, out"), code("trap"), full, 10, true, true)
	full.Told = full.Told[:99]
	checkAlikeIs(t, code("const 1, out"), code("trap"), full, 10, false, true)
	for _, s := range wrongStates() {
		checkAlikeIs(t, nil, nil, s, 10, false, false)
		checkAlikeIs(t, code("trap"), code("const 1, out"), s, 10, false, false)
	}
}

// Promise 17: drawn code and the same with a few numbers changed, from drawn states with drawn fuels.
func TestOptAlikeDrawn(t *testing.T) {
	pick := someSource()
	var met [3]int
	only, traps := 0, 0 // alike, though the states are not, in the end and at a trap
	for range 6000 {
		l, s, fuel := grownCode(pick), grownState(pick), []int{10, 30, 100, 300}[pick(4)]
		other := copySteps(l)
		for i := range other {
			if x := &other[i]; x.Op == impl.WSet || pick(8) == 0 && x.Op <= impl.WGet {
				x.N = pick(8)
			}
		}
		is, ok := checkAlike(t, l, other, s, fuel)
		switch first, second := runByHand(l, s, fuel), runByHand(other, s, fuel); {
		case !ok:
			met[0]++
		case !is:
			met[1]++
		default:
			met[2]++
			if !sameStates(first.s, second.s) && first.how == 1 {
				only++
			} else if !sameStates(first.s, second.s) {
				traps++
			}
		}
	}
	if slices.Min(met[:]) < 300 || min(only, traps) < 100 {
		t.Error("so few of: ", met, only, traps)
	}
}

// Promise 17: bytes that read as code, with noughts on top, too; empty ones; and the bytes that are told read back.
func TestOptBytes(t *testing.T) {
	for _, c := range []struct{ text, noughts string }{
		{"", ""}, {"trap", "\x0e"}, {"const 1, out", "\x01\x81\x80\x00\x0c"}, {"br 0, trap", "\x14\x80\x80\x80\x80\x00\x0e"}, {"const 300, set 1", "\x01\xac\x82\x80\x80\x00\x03\x81\x00"},
		{"block, get 0, table 0 1 0, end, trap", "\x0f\x02\x00\x16\x82\x00\x80\x80\x00\x81\x00\x80\x80\x80\x80\x00\x13\x0e"},
		{"get 3, get 4, get 5, get 6, add, add, add, out, br 0, trap", ""}, {many("get 0, brif 0", 10) + "trap, const 65535, out", ""}, {many("get 0, load, out", 12), ""}, {busy, ""},
	} {
		s := codeByHand(code(c.text))
		for p := range 16 {
			if !checkBytes(t, s, p) || c.noughts != "" && !checkBytes(t, c.noughts, p) {
				t.Error(c.text)
			}
			padded, _ := impl.OptimiseBytes(c.noughts, p)
			if got, _ := impl.OptimiseBytes(s, p); c.noughts != "" && got != padded {
				t.Errorf("OptimiseBytes(%x, %d): %x, not %x", s, p, got, padded)
			}
		}
		for _, p := range wrongPasses() {
			checkNoBytes(t, s, p)
		}
	}
	const told = "\x02\x02\x03\x03\x02\x01\x03\x02\x02\x00\x03\x01\x02\x01\x03\x00\x02\x02\x03\x01\x02\x03\x03\x02\x14\x00"
	for _, s := range []string{"", "\x14\x00", "\x14\x80\x00\x0e"} {
		if got, ok := impl.OptimiseBytes(s, 15); got != told || !ok {
			t.Errorf("OptimiseBytes(%x, 15): %x %v", s, got, ok)
		}
	}
}

// Promises 17 and 19: bytes that are no code, with something left behind code, or of code that is not valid; and too many.
func TestOptBytesWrong(t *testing.T) {
	for _, s := range []string{
		"\x00", "\x17", "\xff", "\x01", "\x0e\x00", "\x0e\x17", "\x01\x05\x0c\x01", "\x13", "\x0f", "\x14\x01", "\x16\x00\x00", "\x0e\x13", "\x02\x08\x0c", "\x01\x80\x80\x04\x0c",
		"\x0d", "\x0c", "\x01\x05", "\x04", "\x0e\x01\x05", "\x15\x00", strings.Repeat("\x0e", 61), strings.Repeat("\x0f\x13", 31),
	} {
		for _, p := range append(places(16), wrongPasses()...) {
			checkNoBytes(t, s, p)
		}
	}
	// 400 bytes, and one more
	table := "\x16\x84\x80\x80\x80\x00" + strings.Repeat("\x80\x80\x80\x80\x00", 5)
	full := "\x0e" + strings.Repeat(table, 12) + strings.Repeat("\x0e", 27)
	if len(full) != 400 || !checkBytes(t, full, 15) || checkBytes(t, full, 16) || checkBytes(t, full+"\x0e", 15) {
		t.Error(len(full))
	}
}

// tallyPassed counts what passes did.
type tallyPassed struct {
	done    map[string]int // ssas of which all passes together do something, by what they do
	more    map[string]int // and do more than that pass alone
	every   int            // each of all five
	stuck   int            // shapes that can't be reduced, at which something is done
	without int            // ssas of which all passes together do nothing
}

func newTallyPassed() tallyPassed {
	return tallyPassed{done: map[string]int{}, more: map[string]int{}}
}

func (c *tallyPassed) count(x passed) {
	all, many := x.many[15], 0
	for kind, name := range passNames {
		alone := x.many[[]int{1, 2, 2, 4, 8}[kind]][kind]
		if all[kind] > 0 {
			c.done[name]++
			many++
		}
		if all[kind] > alone {
			c.more[name]++
		}
	}
	switch {
	case many == len(passNames):
		c.every++
	case many == 0:
		c.without++
	case !hoistByHand(x.s).reducible:
		c.stuck++
	}
}

// known tells an ssa in which much of what is copied or loaded is a word that is known ahead of any run, and is used at once.
func known(s impl.Ssa, pick func(int) int) impl.Ssa {
	out := copySsa(s)
	for at := range out.Parts {
		var there []int
		for i := range out.Parts[at].Code {
			x := &out.Parts[at].Code[i]
			switch {
			case (x.Op == impl.FxCopy || x.Op == impl.FxLoad) && pick(3) > 0:
				*x = impl.Flat{Op: impl.FxConst, Dst: x.Dst, N: pick(4)}
			case x.Op == impl.FxTwo && len(there) > 0 && pick(2) == 0:
				x.A, x.B = there[pick(len(there))], there[pick(len(there))]
			}
			if x.Op == impl.FxConst {
				there = append(there, x.Dst)
			}
		}
	}
	return out
}

// Promise 17: drawn ssas of all kinds, by all sets of passes, from drawn states with drawn fuels.
func TestOptPassesDrawn(t *testing.T) {
	pick := someSource()
	c := newTallyPassed()
	for round := range 350 {
		var s impl.Ssa
		switch round % 5 {
		case 0:
			s = grownSsa(pick)
		case 1:
			s = lean(grownSsa(pick), pick)
		case 2:
			s = grownLooped(pick)
		case 3:
			s = lean(grownLooped(pick), pick)
		default:
			s = strewn(rounds(1+pick(5)), 2+pick(20), pick)
		}
		if pick(3) > 0 {
			s = known(s, pick)
		}
		if s.Values <= 100 && pick(2) == 0 && !slices.ContainsFunc(s.Parts, func(p impl.Part) bool { return len(p.Code) > 30 }) {
			s = twinned(s, pick)
		}
		x := checkPassed(t, s)
		c.count(x)
		for _, fuel := range []int{pick(4), 4 + pick(30), 100} {
			x.checkSsaRuns(t, grownState(pick), fuel)
		}
	}
	for _, name := range passNames {
		if c.done[name] < 100 {
			t.Errorf("so few of %s: %+v", name, c)
		}
	}
	if min(c.more["hoist"], c.more["drop"], c.every, c.stuck) < 20 || c.more["use"] < 5 || c.more["fold"] > 0 {
		t.Errorf("so few of: %+v", c)
	}
}

// tallyCode counts how code came out.
type tallyCode struct {
	far                     map[string]int // how far, and why no farther
	longer, asLong, shorter int
	unlike                  int // codes that came farther by some passes than by others
	hows                    [4]int
	tables                  int // code that came to the end with a WTable
}

func (c *tallyCode) count(x *optimised) {
	for p := range 16 {
		c.far[strconv.Itoa(x.ats[p])+x.whys[p]]++
		switch less := len(x.cut) - len(x.codes[p]); {
		case x.ats[p] < 5:
		case less < 0:
			c.longer++
		case less == 0:
			c.asLong++
		default:
			c.shorter++
		}
	}
	if slices.Min(x.ats[:]) < slices.Max(x.ats[:]) {
		c.unlike++
	}
	if x.ats[15] == 5 && slices.ContainsFunc(x.codes[15], func(s impl.Step) bool { return s.Op == impl.WTable }) {
		c.tables++
	}
}

// Promise 17: drawn code, by all sets of passes, from drawn states with drawn fuels; and once more what is told of it.
func TestOptDrawn(t *testing.T) {
	pick := someSource()
	c, passes := tallyCode{far: map[string]int{}}, newTallyPassed()
	for range 250 {
		l := grownCode(pick)
		if ahead := code(many("get 1, brif 0", pick(9))); len(l)+len(ahead) <= 60 && pick(6) == 0 {
			l = joined(ahead, l)
		}
		if names := 2 + pick(7); pick(2) == 0 {
			for i := range l {
				if l[i].Op == impl.WGet || l[i].Op == impl.WSet {
					l[i].N %= min(names, 8)
				}
			}
		}
		x := checkOptimised(t, l)
		c.count(x)
		if x.ats[0] > 2 {
			passes.count(x.passed)
		}
		for _, fuel := range []int{pick(40), 300} {
			c.hows[x.checkCodeRuns(t, grownState(pick), fuel)]++
		}
		if pick(8) == 0 {
			again := checkOptimised(t, x.codes[pick(16)])
			again.checkCodeRuns(t, grownState(pick), 500)
		}
	}
	if c.far["5"] < 2000 || min(c.far["3names"], c.longer, c.asLong, c.shorter) < 100 || min(c.far["2ssa"], c.far["3parts"], c.far["4long"], c.unlike, c.tables) < 15 {
		t.Errorf("so few of: %+v", c)
	}
	if slices.Min(c.hows[1:]) < 40 || min(passes.done["use"], passes.done["drop"]) < 100 || min(passes.done["fold"], passes.done["trim"], passes.done["hoist"]) < 8 {
		t.Errorf("so few of: %v %+v", c.hows, passes)
	}
}

// Promise 17: all short code that is valid, by all sets of passes.
func TestOptAllShort(t *testing.T) {
	for _, c := range []struct {
		steps string
		most  int
		least int
	}{
		{"const 0, get 0, set 1, out, trap, block, loop, if, else, end, br 0, brif 0, table 0 0", 3, 200},
		{"const 2, get 0, add, load, store, set 0, out, drop", 4, 100},
		{"const 1, if, else, end, brif 0, trap", 5, 200},
	} {
		valid := 0
		for _, l := range allOf(code(c.steps), c.most) {
			if _, _, ok := impl.ValidSteps(l); !ok {
				continue
			}
			valid++
			x := checkOptimised(t, l)
			x.checkCodeRuns(t, stateOf(1, 3), 20+valid%200)
			x.checkCodeRuns(t, stateOf(0, 2), 300)
		}
		if valid < c.least {
			t.Error("so few are valid: ", c.steps, valid)
		}
	}
}

// Promises 17 and 19: bytes of code that are cut anywhere, or of which any is another one.
func TestOptBytesSpoilt(t *testing.T) {
	reads, not := 0, 0
	for _, s := range []string{codeByHand(code("block, get 0, table 0 1 1, end, const 5, set 0, const 15, get 0, store, br 0, trap")), "\x0f\x02\x81\x00\x15\x80\x00\x01\x83\x80\x00\x0c\x13\x0e\x0d"} {
		for at := range len(s) {
			texts := []string{s[:at], s[at:], s + s[:at], s[:at] + s[at+1:]}
			for b := range 256 {
				if b < 26 || b%32 == 0 {
					texts = append(texts, s[:at]+string([]byte{byte(b)})+s[at+1:], s[:at]+string([]byte{byte(b)})+s[at:])
				}
			}
			for i, text := range texts {
				if checkBytes(t, text, (at+i)%16) {
					reads++
				} else {
					not++
				}
			}
		}
	}
	if min(reads, not) < 150 {
		t.Errorf("so few of: %d read, %d not", reads, not)
	}
}

// Promise 19: each Op at each place of code, whatever it has, and numbers far off.
func TestOptAnything(t *testing.T) {
	pick := someSource()
	frame := code("const 1, const 1, block, const 1, if, const 1, drop, else, br 0, drop, end, end, store")
	valid, not := 0, 0
	for _, op := range []int{math.MinInt, -1, 0, 1, 2, 4, 10, 12, 13, 14, 15, 16, 17, 18, 19, 20, 21, 22, 23, math.MaxInt} {
		for _, n := range []int{math.MinInt, -1, 0, 1, 9, 65536, math.MaxInt} {
			for _, table := range [][]int{nil, {}, {0}, {-1}, {1, 2, 9}, {0, 0, 0, 0, 0}, slices.Repeat([]int{0}, 1000)} {
				x := step(op, n, table...)
				for at := range frame {
					l := copySteps(frame)
					if l[at] = x; pick(2) == 0 {
						l = slices.Insert(copySteps(frame), at, x)
					}
					if validByHand(l).code != 0 {
						not++
						checkNoOptimise(t, l)
					} else if valid++; valid%8 == 0 {
						checkOptimised(t, l)
					} else {
						optimisedByHand(l).checkCode(t, pick(16))
					}
				}
			}
		}
	}
	if valid < 100 || not < 5000 {
		t.Errorf("so few of: %d valid, %d not", valid, not)
	}
}

// Promises 17 and 19: drawn ssas of which one thing became another.
func TestOptPassesAnything(t *testing.T) {
	pick := someSource()
	good, wrong := 0, 0
	for range 700 {
		s := grownSsa(pick)
		if pick(2) == 0 {
			s = grownLooped(pick)
		}
		if spoilSsa(&s, pick); !goodSsaByHand(s) {
			wrong++
			checkNoPasses(t, s, append(places(16), -1, 16, math.MinInt, math.MaxInt)...)
			continue
		}
		good++
		checkPassed(t, s).checkSsaRuns(t, stateOf(1, 2), 20)
	}
	if good < 100 || wrong < 300 {
		t.Errorf("so few of: %d good, %d wrong", good, wrong)
	}
}

// Promise 19: nil lists and empty ones are alike.
func TestOptOfNothing(t *testing.T) {
	var flats [3]impl.Flat
	want, _ := impl.SsaOf(nil)
	for _, l := range [][]impl.Step{nil, {}, code("drop")[:0]} {
		x := checkOptimised(t, l)
		if !sameSsa(x.s, want) || x.ats[0] != 5 || len(x.shorter(0)) != 0 {
			t.Error(x)
		}
		for _, told := range [][]int{nil, {}, places(2)[:0]} {
			s := stateOf(1, 2)
			s.Told = told
			checkAlikeIs(t, l, nil, s, 0, true, true)
		}
	}
	for _, none := range [][]int{nil, {}, places(3)[:0]} {
		l := []impl.Step{{Op: impl.WConst, N: 1, Table: none}, {Op: impl.WOut, Table: none}, {Op: impl.WTrap, Table: none}}
		checkOptimised(t, l)
		checkNoOptimise(t, []impl.Step{{Op: impl.WConst, N: 1}, {Op: impl.WTable, Table: none}})
		for _, steps := range [][]impl.Flat{nil, {}, flats[:0]} {
			for _, no := range [][][]int{nil, {}, lists("5")[:0]} {
				s := impl.Ssa{Values: 12, Parts: []impl.Part{
					{Params: none, Code: steps, Go: impl.GoIf, Next: []int{1, 2}, Args: [][]int{none, none}},
					{Params: none, Code: steps, Go: impl.GoEnd, Next: none, Args: [][]int{{1, 2, 9}}},
					{Params: none, Code: steps, Go: impl.GoTrap, Next: none, Args: no},
				}}
				checkPassed(t, s)
				s.Parts[0].Args = no
				checkNoPasses(t, s, places(16)...)
			}
		}
	}
	checkNoPasses(t, impl.Ssa{Parts: []impl.Part{}}, places(16)...)
}

// sharedSteps is valid code, two of whose Tables lie in one memory, with something behind their lengths; and steps behind it that are not.
func sharedSteps() ([]impl.Step, []int) {
	table := []int{0, 1, 0, 99, 98}
	l := code("block, block, get 0, table 0, end, const 7, out, get 1, table 0, end, const 5, set 0, br 0, trap, const 1, drop")
	l[3].Table, l[8].Table = table[:2], table[1:3]
	return append(l, step(99, 98, 97), impl.Step{Op: impl.WDrop}, step(impl.WTable, 1, 1)), table
}

// Promise 19: no list that is handed in is changed, nor what lies behind it; and that tells nothing.
func TestOptListsStay(t *testing.T) {
	memory, table := sharedSteps()
	before, tableBefore := sharedSteps()
	for many := range len(memory) + 1 {
		l := memory[:many]
		if validByHand(l).code != 0 {
			checkNoOptimise(t, l)
			continue
		}
		x, y := checkOptimised(t, l), checkOptimised(t, copySteps(l))
		for p := range 16 {
			if !sameSteps(x.codes[p], y.codes[p]) || x.ats[p] != y.ats[p] {
				t.Error(x.codes, y.codes)
			}
		}
		x.checkCodeRuns(t, risingState(), 100)
	}
	if !sameSteps(memory, before) || !slices.Equal(table, tableBefore) {
		t.Error(memory, table)
	}
	s, parts, flats, numbers := sharedSsa()
	partsBefore, flatsBefore, numbersBefore := copySsa(impl.Ssa{Parts: parts}), slices.Clone(flats), slices.Clone(numbers)
	for many := range len(parts) + 1 {
		if many != 3 {
			checkNoPasses(t, impl.Ssa{Values: 19, Parts: parts[:many]}, places(16)...)
		}
	}
	x, y := checkPassed(t, s), checkPassed(t, copySsa(s))
	for p := range 16 {
		if !sameSsa(x.made[p], y.made[p]) {
			t.Error(x.made[p], y.made[p])
		}
	}
	x.checkSsaRuns(t, risingState(), 6)
	if !sameSsa(impl.Ssa{Parts: parts}, partsBefore) || !slices.Equal(flats, flatsBefore) || !slices.Equal(numbers, numbersBefore) {
		t.Error(parts, flats, numbers)
	}
}

// Promise 19: runs from a state whose lists lie in one memory, with something behind their lengths, leave it as it was.
func TestOptAlikeSharedState(t *testing.T) {
	memory := slices.Repeat([]int{2}, 30)
	s := impl.State{Locals: memory[:8], Mem: memory[4:20], Told: memory[2:5]}
	checkAlikeIs(t, code(busy), code(busy), s, 100, true, true)
	checkAlikeIs(t, code(busy), code("const 3, set 7, "+busy), s, 100, true, true)
	checkAlikeIs(t, code("const 9, set 7"), code("const 0, const 9, store"), s, 100, false, true)
	checkAlikeIs(t, code("const 9, out"), code("const 8, out"), s, 100, false, true)
	if !slices.Equal(memory, slices.Repeat([]int{2}, 30)) {
		t.Error(memory)
	}
}

// Promise 19: what is told shares no memory with what was handed in, even where that shares its own, nor do two lists of one answer share any, nor two answers.
func TestOptAnswersAreNew(t *testing.T) {
	memory, table := sharedSteps()
	before, tableBefore := sharedSteps()
	tables := 0
	for _, l := range [][]impl.Step{
		memory[:16], nil, code("trap"), code("const 1, out, trap, trap"), code("get 3, get 4, get 5, get 6, add, add, add, out, br 0, trap"), joined(code(many("get 0, load, out", 11)), memory[:16]),
		code(many("get 0, brif 0", 10) + "get 0, table 0 0 0, trap"), code(many("get 0, load, out", 12) + "get 0, table 0 0 0, trap"), code("const 1, const 2, add, const 3, mul, out, trap"),
	} {
		kept := copySteps(l)
		stays := func() bool {
			return sameSteps(l, kept) && sameSteps(memory, before) && slices.Equal(table, tableBefore)
		}
		for _, p := range []int{0, 7, 15} {
			checkStepsAreNew(t, func() []impl.Step { got, _, _ := impl.Optimise(l, p); return got }, stays)
			checkStepsAreNew(t, func() []impl.Step { got, _ := impl.Shorter(l, p); return got }, stays)
			got, _, _ := impl.Optimise(l, p)
			if slices.ContainsFunc(got, func(x impl.Step) bool { return len(x.Table) > 0 }) {
				tables++
			}
		}
		checkSsaIsNew(t, func() impl.Ssa { got, _ := impl.SsaOf(l); return got }, stays)
	}
	if tables < 9 {
		t.Error("so few have a Table: ", tables)
	}
	shared, parts, flats, numbers := sharedSsa()
	partsBefore, flatsBefore, numbersBefore := copySsa(impl.Ssa{Parts: parts}), slices.Clone(flats), slices.Clone(numbers)
	round, _, _, _ := sharedRound()
	for _, s := range []impl.Ssa{shared, round, fullSsa(), ssa(12, "trap"), ssa(12, "end 9 10 11"), ssa(13, "if 0 1 2; const 12 1, to 2; to 1"), ssa(13, "to 1(3); with 12, end 12 12 1")} {
		kept := copySsa(s)
		stays := func() bool {
			return sameSsa(s, kept) && sameSsa(impl.Ssa{Parts: parts}, partsBefore) && slices.Equal(flats, flatsBefore) && slices.Equal(numbers, numbersBefore)
		}
		for _, p := range []int{0, 1, 2, 4, 8, 15} {
			checkSsaIsNew(t, func() impl.Ssa { got, _, _ := impl.PassesOver(s, p); return got }, stays)
		}
	}
}

// Promises 17 and 19: the same answer on many runs.
func TestOptEachTime(t *testing.T) {
	pick := someSource()
	for range 40 {
		l, p := grownCode(pick), pick(16)
		want, far, _ := impl.Optimise(l, p)
		s, can := impl.SsaOf(l)
		passed, many, _ := impl.PassesOver(s, p)
		for range 20 {
			if got, at, ok := impl.Optimise(l, p); !sameSteps(got, want) || at != far || !ok {
				t.Fatalf("Optimise(%v, %d): %v %d %v, not %v %d", l, p, got, at, ok, want, far)
			}
			if got, n, ok := impl.PassesOver(s, p); !sameSsa(got, passed) || n != many || ok != can {
				t.Fatalf("PassesOver(%v, %d): %v %d %v, not %v %d", s, p, got, n, ok, passed, many)
			}
		}
	}
}
