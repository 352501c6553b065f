package tests

import (
	"math"
	"slices"
	"strconv"
	"strings"
	"testing"

	"loop.example/g00373/impl"
)

// keptTold tells names to keep by their digits.
func keptTold(text string) []int { return numbersOf(strings.Fields(text)) }

// flatsTold tells flat steps by their words.
func flatsTold(text string) []impl.Flat { return flow(text)[0].Code }

// goodStackByHand tells of any flat steps and names at all whether they are as said.
func goodStackByHand(l []impl.Flat, keep []int) bool {
	for i, name := range keep {
		if name < 0 || name > 7 || slices.ContainsFunc(keep[:i], func(other int) bool { return other >= name }) {
			return false
		}
	}
	for _, x := range l {
		if !goodFlatByHand(x) || !isLow(x.Dst, x.A, x.B) {
			return false
		}
	}
	return len(l) <= 60
}

// makesName tells whether a flat step has a name as its Dst.
func makesName(x impl.Flat, name int) bool {
	_, made := usedByHand(x)
	return slices.Contains(made, name)
}

// usedTimes tells how often the name that a step makes is used by those behind it, up to the next one that makes it, and whether there is none such and it is kept.
func usedTimes(l []impl.Flat, at int, keep []int) (int, bool) {
	name := l[at].Dst
	var uses []int
	next := slices.IndexFunc(l[at+1:], func(x impl.Flat) bool { return makesName(x, name) })
	to := len(l)
	if next >= 0 {
		to = at + 1 + next + 1
	}
	for _, x := range l[at+1 : to] {
		used, _ := usedByHand(x)
		uses = append(uses, used...)
	}
	others := slices.DeleteFunc(slices.Clone(uses), func(used int) bool { return used == name })
	return len(uses) - len(others), next < 0 && slices.Contains(keep, name)
}

// onceByStep tells for each step whether it makes what is used once: "yes", "no", or "-", where it makes nothing.
func onceByStep(l []impl.Flat, keep []int) []string {
	var words []string
	for at, x := range l {
		switch many, kept := usedTimes(l, at, keep); {
		case x.Op >= 5:
			words = append(words, "-")
		case many == 1 && !kept:
			words = append(words, "yes")
		default:
			words = append(words, "no")
		}
	}
	return words
}

// neededByHand tells the names whose words matter at first.
func neededByHand(l []impl.Flat, keep []int) []int {
	var needed []int
	for name := range 8 {
		made := slices.IndexFunc(l, func(x impl.Flat) bool { return makesName(x, name) })
		used := slices.IndexFunc(l, func(x impl.Flat) bool { uses, _ := usedByHand(x); return slices.Contains(uses, name) })
		if used >= 0 && (made < 0 || used <= made) || made < 0 && slices.Contains(keep, name) {
			needed = append(needed, name)
		}
	}
	return needed
}

// idleByHand tells the places of the steps that are idle.
func idleByHand(l []impl.Flat, keep []int) []int {
	var idle []int
	for at, x := range l {
		if !pureByHand(x) {
			continue
		}
		if many, kept := usedTimes(l, at, keep); many == 0 && !kept {
			idle = append(idle, at)
		}
	}
	return idle
}

// dropIdleByHand lets idle steps go, one after the other, each time the one that is picked.
func dropIdleByHand(l []impl.Flat, keep []int, pick func(int) int) ([]impl.Flat, int) {
	left := slices.Clone(l)
	for many := 0; ; many++ {
		idle := idleByHand(left, keep)
		if len(idle) == 0 {
			return left, many
		}
		at := idle[pick(len(idle))]
		left = slices.Delete(left, at, at+1)
	}
}

// handStack is code word by word, and the names that wait, the last one on top.
type handStack struct {
	words []string
	row   []int
	taken int    // names whose words were used as they lay
	both  int    // times that two were
	mixed int    // times that one was, with another one that did not wait
	set   int    // names that waited and were set
	full  int    // names that would have waited, had there not been two
	most  int    // names that waited at one time
	never [2]int // what never comes about: what waits where a step that does not use it makes it, and in the end
}

func (h *handStack) say(word string, n int) {
	h.words = append(h.words, word+" "+strconv.Itoa(n))
}

func (h *handStack) waits(name int) bool { return slices.Contains(h.row, name) }

func (h *handStack) setAll() int {
	many := len(h.row)
	for ; len(h.row) > 0; h.row = h.row[:len(h.row)-1] {
		h.say("set", h.row[len(h.row)-1])
	}
	h.set += many
	return many
}

// bring lets what a step uses lie on top.
func (h *handStack) bring(uses []int) {
	many := len(h.row)
	if above := many - len(uses); len(uses) > 0 && above >= 0 && slices.Equal(h.row[above:], uses) {
		h.row = h.row[:above]
		h.taken += len(uses)
		h.both += len(uses) / 2
		return
	}
	if len(uses) == 2 && many > 0 && h.row[many-1] == uses[0] && !h.waits(uses[1]) {
		h.row = h.row[:many-1]
		h.say("get", uses[1])
		h.taken++
		h.mixed++
		return
	}
	if slices.ContainsFunc(uses, h.waits) {
		h.setAll()
	}
	for _, name := range uses {
		h.say("get", name)
	}
}

// step tells one step; once tells whether what it makes is used just once.
func (h *handStack) step(x impl.Flat, once bool) {
	uses, made := usedByHand(x)
	if slices.ContainsFunc(made, h.waits) && !slices.Contains(uses, made[0]) {
		h.never[0] += h.setAll()
	}
	h.bring(uses)
	switch x.Op {
	case 1:
		h.say("const", x.N)
	case 3:
		h.words = append(h.words, strings.Fields("add sub mul div less eq")[x.Do-4])
	case 4:
		h.words = append(h.words, "load")
	case 5:
		h.words = append(h.words, "store")
	case 6:
		h.words = append(h.words, "out")
	}
	switch {
	case len(made) == 0:
	case once && len(h.row) < 2:
		h.row = append(h.row, made[0])
		h.most = max(h.most, len(h.row))
	default:
		h.full += map[bool]int{true: 1}[once]
		h.say("set", made[0])
	}
}

func stackByHand(l []impl.Flat, keep []int) *handStack {
	h := &handStack{}
	for at, once := range onceByStep(l, keep) {
		h.step(l[at], once == "yes")
	}
	h.never[1] = h.setAll()
	return h
}

// checkOnce holds UsedOnce at each place, and at such as are none, against what is worked out by hand.
func checkOnce(t *testing.T, l []impl.Flat, keep []int) {
	t.Helper()
	for at, want := range onceByStep(l, keep) {
		if is, ok := impl.UsedOnce(l, at, keep); is != (want == "yes") || ok != (want != "-") {
			t.Fatalf("UsedOnce(%v, %d, %v): %v %v, not %s", l, at, keep, is, ok, want)
		}
	}
	for _, at := range farOff(len(l)) {
		if is, ok := impl.UsedOnce(l, at, keep); is || ok {
			t.Fatalf("UsedOnce(%v, %d, %v): %v %v", l, at, keep, is, ok)
		}
	}
}

// stacked is flat steps as said, what is kept of them, and what is told of them.
type stacked struct {
	l     []impl.Flat
	keep  []int
	code  []impl.Step // of StackBlock; nothing, where it is too long
	left  []impl.Flat // of DropIdle
	needs []int       // of NeedsAhead
	hand  *handStack
}

// fits tells whether StackBlock tells code.
func (x stacked) fits() bool { return len(x.hand.words) <= 60 }

// checkBlock holds StackBlock and SavedBy against what is worked out by hand: a name whose word is used as it lies saves its WSet and its WGet.
func (x *stacked) checkBlock(t *testing.T) {
	t.Helper()
	want := code(strings.Join(x.hand.words, ","))
	saved := 2 * x.hand.taken
	if !x.fits() {
		want, saved = nil, 0
	}
	got, ok := impl.StackBlock(x.l, x.keep)
	if !sameSteps(got, want) || ok != x.fits() {
		t.Fatalf("StackBlock(%v, %v): %v %v, not %v %v", x.l, x.keep, got, ok, want, x.fits())
	}
	if many, ok := impl.SavedBy(x.l, x.keep); many != saved || ok != x.fits() {
		t.Fatalf("SavedBy(%v, %v): %d %v, not %d %v", x.l, x.keep, many, ok, saved, x.fits())
	}
	if named, _ := impl.FlatSteps(x.l); x.fits() && len(named)-len(got) != saved {
		t.Fatalf("SavedBy(%v, %v): %d of %d and %d steps", x.l, x.keep, saved, len(named), len(got))
	}
	if x.hand.never != [2]int{} {
		t.Fatalf("%v, %v: %v", x.l, x.keep, x.hand.never)
	}
	x.code = got
}

// checkStack holds all that is told of flat steps as said against what is worked out by hand.
func checkStack(t *testing.T, l []impl.Flat, keep []int) stacked {
	t.Helper()
	before, keepBefore := slices.Clone(l), slices.Clone(keep)
	if !goodStackByHand(l, keep) {
		t.Fatal(l, keep)
	}
	x := stacked{l: l, keep: keep, hand: stackByHand(l, keep)}
	checkOnce(t, l, keep)
	x.checkBlock(t)
	var ok bool
	if x.needs, ok = impl.NeedsAhead(l, keep); !slices.Equal(x.needs, neededByHand(l, keep)) || !ok {
		t.Fatalf("NeedsAhead(%v, %v): %v %v, not %v", l, keep, x.needs, ok, neededByHand(l, keep))
	}
	want, many := dropIdleByHand(l, keep, lastOf)
	left, gone, ok := impl.DropIdle(l, keep)
	if !slices.Equal(left, want) || gone != many || !ok {
		t.Fatalf("DropIdle(%v, %v): %v %d %v, not %v %d", l, keep, left, gone, ok, want, many)
	}
	x.left = left
	if !slices.Equal(l, before) || !slices.Equal(keep, keepBefore) {
		t.Fatalf("%v %v were %v %v", l, keep, before, keepBefore)
	}
	return x
}

// checkSameLeft looks whether two runs come out alike: of those that come to the end what is kept is the same.
func checkSameLeft(t *testing.T, what any, keep []int, got impl.State, how int, want impl.State, wantHow int) {
	t.Helper()
	if how != wantHow || !slices.Equal(got.Told, want.Told) || !slices.Equal(got.Mem, want.Mem) {
		t.Fatalf("%v: %v %d, not %v %d", what, got, how, want, wantHow)
	}
	for _, name := range keep {
		if how == impl.OutEnd && got.Locals[name] != want.Locals[name] {
			t.Fatalf("%v: %v, not %v, as to %v", what, got.Locals, want.Locals, keep)
		}
	}
}

// doneAs tells what flat steps make of a state, told as one block.
func doneAs(l []impl.Flat, state impl.State) (impl.State, int) {
	got, how, _, _ := impl.RunFlow([]impl.Block{{Code: l, Go: impl.GoEnd}}, state, 1)
	return got, how
}

// checkStackRun runs all that is told of flat steps, from a state and from those that differ in what does not matter; it tells how they come out.
func (x stacked) checkStackRun(t *testing.T, state impl.State, pick func(int) int) int {
	t.Helper()
	want, wantHow := doneAs(x.l, state)
	other := copyOfState(state)
	for name := range other.Locals {
		if !slices.Contains(x.needs, name) {
			other.Locals[name] = pick(65536)
		}
	}
	for _, from := range []impl.State{state, other} {
		for _, l := range [][]impl.Flat{x.l, x.left} {
			got, how := doneAs(l, from)
			checkSameLeft(t, l, x.keep, got, how, want, wantHow)
			if steps, ok := impl.FlatSteps(l); ok && len(steps) <= 60 {
				got, how, _, _ := impl.RunSteps(steps, from, 60)
				checkSameLeft(t, steps, x.keep, got, how, want, wantHow)
			}
			if steps, ok := impl.StackBlock(l, x.keep); ok {
				got, how, _, _ := impl.RunSteps(steps, from, 60)
				checkSameLeft(t, steps, x.keep, got, how, want, wantHow)
			}
		}
	}
	return wantHow
}

// checkStackValid looks whether code is valid, leaves no word behind, and lets no more words wait than may.
func (x stacked) checkStackValid(t *testing.T) {
	t.Helper()
	if code, _, ok := impl.ValidSteps(x.code); code != 0 || !ok {
		t.Fatalf("%v of %v: %d", x.code, x.l, code)
	}
	if high, _ := impl.MostHigh(x.code); high > 4 {
		t.Fatalf("%v of %v: %d words", x.code, x.l, high)
	}
}

// checkNoStack looks for the zero answers.
func checkNoStack(t *testing.T, l []impl.Flat, keep []int) {
	t.Helper()
	before, keepBefore := slices.Clone(l), slices.Clone(keep)
	if goodStackByHand(l, keep) {
		t.Fatal(l, keep)
	}
	if got, ok := impl.StackBlock(l, keep); len(got) != 0 || ok {
		t.Errorf("StackBlock(%v, %v): %v %v", l, keep, got, ok)
	}
	if many, ok := impl.SavedBy(l, keep); many != 0 || ok {
		t.Errorf("SavedBy(%v, %v): %d %v", l, keep, many, ok)
	}
	if got, ok := impl.NeedsAhead(l, keep); len(got) != 0 || ok {
		t.Errorf("NeedsAhead(%v, %v): %v %v", l, keep, got, ok)
	}
	if got, many, ok := impl.DropIdle(l, keep); len(got) != 0 || many != 0 || ok {
		t.Errorf("DropIdle(%v, %v): %v %d %v", l, keep, got, many, ok)
	}
	for _, at := range append(farOff(len(l)), places(min(len(l), 70))...) {
		if is, ok := impl.UsedOnce(l, at, keep); is || ok {
			t.Errorf("UsedOnce(%v, %d, %v): %v %v", l, at, keep, is, ok)
		}
	}
	if !slices.Equal(l, before) || !slices.Equal(keep, keepBefore) {
		t.Errorf("%v %v were %v %v", l, keep, before, keepBefore)
	}
}

// stackCase is flat steps, the names to keep, and their code; "-", where there is none.
type stackCase struct{ flats, keep, code string }

func checkStackCases(t *testing.T, cases []stackCase) {
	t.Helper()
	pick := someSource()
	for _, c := range cases {
		x := checkStack(t, flatsTold(c.flats), keptTold(c.keep))
		if x.fits() != (c.code != "-") || x.fits() && !sameSteps(x.code, code(c.code)) {
			t.Errorf("StackBlock(%s; %s): %v, not %s", c.flats, c.keep, x.code, c.code)
		}
		x.checkStackValid(t)
		for _, state := range []impl.State{risingState(), stateOf(0, 0), fullState(), stateOf(3, 15)} {
			x.checkStackRun(t, state, pick)
		}
	}
}

// Promise 16: each Op by itself, its Dst being looked at behind, or not; each Do; names alike.
func TestStackOps(t *testing.T) {
	checkStackCases(t, []stackCase{
		{"", "", ""}, {"", "0", ""}, {"", "0 1 2 3 4 5 6 7", ""},
		{"const 0 0", "", "const 0, set 0"}, {"const 7 65535", "7", "const 65535, set 7"},
		{"copy 1 2", "", "get 2, set 1"}, {"copy 7 0", "7", "get 0, set 7"}, {"copy 3 3", "3", "get 3, set 3"},
		{"add 1 2 3", "", "get 2, get 3, add, set 1"}, {"sub 1 2 3", "1", "get 2, get 3, sub, set 1"}, {"mul 1 2 3", "1 2", "get 2, get 3, mul, set 1"},
		{"div 1 2 3", "1", "get 2, get 3, div, set 1"}, {"less 1 2 3", "1", "get 2, get 3, less, set 1"}, {"eq 1 2 3", "1", "get 2, get 3, eq, set 1"},
		{"sub 1 2 2", "1", "get 2, get 2, sub, set 1"}, {"sub 2 2 1", "2", "get 2, get 1, sub, set 2"}, {"sub 2 1 2", "2", "get 1, get 2, sub, set 2"}, {"add 2 2 2", "2", "get 2, get 2, add, set 2"},
		{"load 4 5", "", "get 5, load, set 4"}, {"load 5 5", "5", "get 5, load, set 5"},
		{"store 4 5", "", "get 4, get 5, store"}, {"store 5 4", "4 5", "get 5, get 4, store"}, {"store 7 7", "", "get 7, get 7, store"},
		{"out 3", "", "get 3, out"}, {"out 7", "7", "get 7, out"},
		// several, nothing of which waits
		{"const 0 1, const 1 2, const 2 3", "0 1 2", "const 1, set 0, const 2, set 1, const 3, set 2"},
		{"copy 1 0, copy 0 2, copy 2 1", "0 1 2", "get 0, set 1, get 2, set 0, get 1, set 2"},
		{"store 0 1, out 0, store 1 0", "", "get 0, get 1, store, get 0, out, get 1, get 0, store"},
	})
}

// Promise 16: what is used once waits, by each Op that makes it and each that uses it; what is used twice, or never, or is kept does not.
func TestStackWaits(t *testing.T) {
	checkStackCases(t, []stackCase{
		{"const 5 3, out 5", "", "const 3, out"}, {"copy 5 1, out 5", "", "get 1, out"}, {"sub 5 1 2, out 5", "", "get 1, get 2, sub, out"}, {"load 5 1, out 5", "", "get 1, load, out"},
		{"const 5 3, copy 6 5", "6", "const 3, set 6"}, {"const 5 3, load 6 5", "6", "const 3, load, set 6"},
		{"const 5 3, div 6 5 1", "6", "const 3, get 1, div, set 6"}, {"const 5 3, store 5 1", "", "const 3, get 1, store"},
		{"copy 5 1, copy 6 5, copy 4 6, out 4", "", "get 1, out"}, {"load 5 1, load 6 5, load 4 6, out 4", "", "get 1, load, load, load, out"},
		// used twice, behind each other, or by one step
		{"const 5 3, out 5, out 5", "", "const 3, set 5, get 5, out, get 5, out"}, {"const 5 3, add 6 5 5", "6", "const 3, set 5, get 5, get 5, add, set 6"},
		{"const 5 3, store 5 5", "", "const 3, set 5, get 5, get 5, store"}, {"const 5 3, store 5 1, store 1 5", "", "const 3, set 5, get 5, get 1, store, get 1, get 5, store"},
		{"load 5 1, mul 5 5 5, out 5", "", "get 1, load, set 5, get 5, get 5, mul, out"},
		// used never
		{"const 5 3, out 1", "", "const 3, set 5, get 1, out"}, {"const 5 3, const 5 4, out 5", "", "const 3, set 5, const 4, out"},
		// kept, and made anew
		{"const 5 3, out 5", "5", "const 3, set 5, get 5, out"}, {"const 5 3, out 5", "4 6", "const 3, out"},
		{"const 5 3, out 5, const 5 4", "5", "const 3, out, const 4, set 5"}, {"const 5 3, out 5, const 5 4", "", "const 3, out, const 4, set 5"},
		{"const 5 3, out 5, const 5 4, out 5", "5", "const 3, out, const 4, set 5, get 5, out"},
		// what was there ahead of all is used from its name
		{"out 5, const 5 3, out 5", "", "get 5, out, const 3, out"}, {"const 6 3, out 5, out 6", "", "const 3, get 5, out, out"},
		// two that wait, and a third one that is set
		{"const 4 1, const 5 2, out 5, out 4", "", "const 1, const 2, out, out"},
		{"const 4 1, const 5 2, const 6 3, out 6, out 5, out 4", "", "const 1, const 2, const 3, set 6, get 6, out, out, out"},
		{"const 4 1, const 5 2, const 6 3, const 7 4, out 7, out 6, out 5, out 4", "", "const 1, const 2, const 3, set 6, const 4, set 7, get 7, out, get 6, out, out, out"},
		{"const 4 1, const 5 2, out 5, const 6 3, out 6, out 4", "", "const 1, const 2, out, const 3, out, out"},
		// what is set although it is used once, and kept beside it
		{"const 4 1, const 5 2, const 6 3, out 6, out 5, out 4", "6", "const 1, const 2, const 3, set 6, get 6, out, out, out"},
	})
}

// Promise 16: two that wait are used, in order and in the other order, alone, and with others beside or below them.
func TestStackOrder(t *testing.T) {
	checkStackCases(t, []stackCase{
		{"const 4 1, const 5 2, sub 6 4 5", "6", "const 1, const 2, sub, set 6"}, {"const 4 1, const 5 2, store 4 5", "", "const 1, const 2, store"},
		{"const 4 1, const 5 2, sub 6 5 4", "6", "const 1, const 2, set 5, set 4, get 5, get 4, sub, set 6"}, {"const 4 1, const 5 2, store 5 4", "", "const 1, const 2, set 5, set 4, get 5, get 4, store"},
		// one that waits is used, the first one or the second one of two
		{"const 4 1, sub 6 4 1", "6", "const 1, get 1, sub, set 6"}, {"const 4 1, sub 6 1 4", "6", "const 1, set 4, get 1, get 4, sub, set 6"},
		{"const 4 1, store 4 1", "", "const 1, get 1, store"}, {"const 4 1, store 1 4", "", "const 1, set 4, get 1, get 4, store"},
		// another one waits below
		{"const 4 1, const 5 2, sub 6 5 1, sub 7 4 6", "7", "const 1, const 2, get 1, sub, sub, set 7"}, {"const 4 1, const 5 2, load 6 5, out 6, out 4", "", "const 1, const 2, load, out, out"},
		{"const 4 1, const 5 2, sub 6 1 5, sub 7 4 6", "7", "const 1, const 2, set 5, set 4, get 1, get 5, sub, set 6, get 4, get 6, sub, set 7"},
		// the lower one of two is used, with one that does not wait, and alone
		{"const 4 1, const 5 2, sub 6 4 1, sub 7 5 6", "7", "const 1, const 2, set 5, set 4, get 4, get 1, sub, set 6, get 5, get 6, sub, set 7"},
		{"const 4 1, const 5 2, sub 6 1 4, out 5", "6", "const 1, const 2, set 5, set 4, get 1, get 4, sub, set 6, get 5, out"},
		{"const 4 1, const 5 2, out 4, out 5", "", "const 1, const 2, set 5, set 4, get 4, out, get 5, out"},
		{"const 4 1, const 5 2, load 6 4, out 6, out 5", "", "const 1, const 2, set 5, set 4, get 4, load, out, get 5, out"},
		{"const 4 1, const 5 2, copy 6 4, out 6, out 5", "", "const 1, const 2, set 5, set 4, get 4, out, get 5, out"},
		// those that wait are not used
		{"const 4 1, out 1, out 4", "", "const 1, get 1, out, out"}, {"const 4 1, const 5 2, sub 6 1 2, out 6, sub 6 4 5", "6", "const 1, const 2, get 1, get 2, sub, set 6, get 6, out, sub, set 6"},
		{"const 4 1, const 5 2, store 1 2, store 4 5", "", "const 1, const 2, get 1, get 2, store, store"}, {"const 4 1, const 5 2, add 3 1 1, sub 6 4 5, sub 6 6 3", "6", "const 1, const 2, get 1, get 1, add, set 3, sub, get 3, sub, set 6"},
		// what comes of those that wait waits
		{"const 4 1, const 5 2, sub 6 4 5, out 6", "", "const 1, const 2, sub, out"}, {"const 3 9, const 4 1, load 5 4, sub 6 3 5, out 6", "", "const 9, const 1, load, sub, out"},
		{"load 2 0, load 3 1, sub 2 2 3, load 3 0, sub 2 2 3, out 2", "", "get 0, load, get 1, load, sub, get 0, load, sub, out"},
		{"mul 4 0 1, mul 5 1 2, sub 4 4 5, mul 5 2 3, sub 4 4 5, store 0 4", "", "get 0, get 1, mul, get 1, get 2, mul, sub, get 2, get 3, mul, sub, set 4, get 0, get 4, store"},
		{"mul 4 0 1, mul 5 1 2, mul 6 2 3, sub 5 5 6, sub 4 4 5", "4", "get 0, get 1, mul, get 1, get 2, mul, get 2, get 3, mul, set 6, get 6, sub, sub, set 4"},
	})
}

// Promise 16: a step whose Dst waits uses it; it was used, and is made anew; what its name has is not what waits.
func TestStackAnew(t *testing.T) {
	checkStackCases(t, []stackCase{
		{"const 5 3, sub 5 5 1, out 5", "", "const 3, get 1, sub, out"}, {"const 5 3, sub 5 5 1", "5", "const 3, get 1, sub, set 5"}, {"const 5 3, load 5 5, load 5 5", "5", "const 3, load, load, set 5"},
		{"const 5 3, copy 5 5, out 5", "", "const 3, out"}, {"const 5 3, copy 5 5", "5", "const 3, set 5"}, {"const 5 3, sub 5 1 5", "5", "const 3, set 5, get 1, get 5, sub, set 5"},
		{"const 4 1, const 5 3, sub 5 4 5, out 5", "", "const 1, const 3, sub, out"}, {"const 4 1, const 5 3, sub 5 5 1, sub 4 4 5", "4", "const 1, const 3, get 1, sub, sub, set 4"},
		{"const 5 3, const 4 1, sub 5 5 1, sub 4 4 5", "4", "const 3, const 1, set 4, set 5, get 5, get 1, sub, set 5, get 4, get 5, sub, set 4"},
		// it waits no more where it is made anew
		{"const 5 3, out 5, const 5 4, out 5", "", "const 3, out, const 4, out"}, {"const 5 3, copy 4 5, const 5 9, sub 6 4 5", "6", "const 3, const 9, sub, set 6"},
		{"const 5 3, sub 5 5 5, sub 5 5 1", "5", "const 3, set 5, get 5, get 5, sub, get 1, sub, set 5"}, {"const 4 1, const 5 3, copy 4 5, out 4", "", "const 1, set 4, const 3, out"},
		{"const 5 3, const 6 1, out 5, const 5 4, sub 7 5 6", "7", "const 3, const 1, set 6, set 5, get 5, out, const 4, get 6, sub, set 7"},
		// a copy of a name that is made anew while it waits
		{"copy 4 0, copy 0 1, copy 1 4", "0 1", "get 0, get 1, set 0, set 1"}, {"copy 4 0, const 0 9, out 4, out 0", "0", "get 0, const 9, set 0, out, get 0, out"},
		{"copy 2 0, copy 3 1, copy 0 3, copy 1 2", "0 1", "get 0, get 1, set 0, set 1"}, {"copy 2 0, copy 3 1, copy 0 2, copy 1 3", "0 1", "get 0, get 1, set 3, set 2, get 2, set 0, get 3, set 1"},
		// memory as it was when it was looked at
		{"load 4 0, store 0 1, out 4, load 4 0, out 4", "", "get 0, load, get 0, get 1, store, out, get 0, load, out"}, {"load 4 0, load 5 1, store 0 5, store 1 4", "", "get 0, load, get 1, load, set 5, set 4, get 0, get 5, store, get 1, get 4, store"},
	})
}

// Promise 16: as many steps as there may be, and one more; code as long as it may be, and one longer.
func TestStackLong(t *testing.T) {
	outs := func(often int) string { return many("out 0", often) }
	gets := func(often int) string { return many("get 0, out", often) }
	copies := "const 0 7, " + many("copy 1 0, copy 0 1", 29) + "out 0"
	checkStackCases(t, []stackCase{
		{copies, "", "const 7, out"}, {"const 0 7, " + many("load 0 0", 58) + "out 0", "", "const 7, " + many("load", 58) + "out"}, {"const 0 7, " + many("load 0 0", 58) + "copy 1 0", "1", "const 7, " + many("load", 58) + "set 1"},
		{"load 0 0, " + many("load 0 0", 58) + "out 0", "", "-"}, {"const 0 7, " + many("load 0 0", 59), "", "-"}, {"const 0 7, " + many("load 0 0", 58), "0", "const 7, " + many("load", 58) + "set 0"},
		{outs(30), "", gets(30)}, {outs(29), "", gets(29)}, {outs(31), "", "-"}, {outs(60), "", "-"},
		{outs(29) + "load 1 0, out 1", "", "-"}, {outs(28) + "load 1 0, out 1", "", gets(28) + "get 0, load, out"}, {outs(28) + "load 1 0, load 1 1, out 1", "", gets(28) + "get 0, load, load, out"}, {outs(28) + "load 1 0, load 1 1, load 1 1, out 1", "", "-"},
		{many("const 1 2", 30), "", many("const 2, set 1", 30)}, {many("const 1 2", 31), "", "-"}, {many("const 1 2", 60), "1", "-"}, {many("const 1 2", 30), "1", many("const 2, set 1", 30)},
		{many("add 1 2 3", 15), "", many("get 2, get 3, add, set 1", 15)}, {many("add 1 2 3", 16), "", "-"}, {many("store 1 2", 20), "", many("get 1, get 2, store", 20)}, {many("store 1 2", 21), "", "-"},
		// what waits till the last step makes the code too long, and does not
		{"const 5 1, " + outs(29) + "out 5", "", "const 1, " + gets(29) + "out"}, {"const 5 1, " + outs(29) + "load 4 5, out 4", "", "-"}, {"const 5 1, " + outs(29) + "add 5 0 5", "", "-"}, {"const 5 1, " + outs(29) + "copy 5 5", "5", "const 1, " + gets(29) + "set 5"}, {"const 5 1, " + outs(29) + "copy 4 5, copy 3 4", "3", "const 1, " + gets(29) + "set 3"},
	})
	for _, x := range [][]impl.Flat{flatsTold(copies), flatsTold(outs(30)), flatsTold(many("copy 0 0", 59) + "out 0")} {
		l := append(slices.Clone(x), slices.Repeat(x[len(x)-1:], 61-len(x))...)
		checkNoStack(t, l, nil)
		checkNoStack(t, l, []int{0})
		checkStack(t, l[:60], nil)
		checkStack(t, l[1:], []int{1})
	}
	for _, text := range []string{"const 1 2", "copy 1 2", "add 1 2 3", "load 1 2", "store 1 2", "out 1", "copy 1 1", "load 1 1"} {
		for many := range 64 {
			if l := slices.Repeat(flatsTold(text), many); many <= 60 {
				checkStack(t, l, nil)
				checkStack(t, l, []int{1})
			} else {
				checkNoStack(t, l, nil)
			}
		}
		checkNoStack(t, slices.Repeat(flatsTold(text), 100000), nil)
	}
}

// Promise 16: what is saved, nothing saved, and what can't be told.
func TestStackSaved(t *testing.T) {
	for _, c := range []struct {
		flats, keep string
		saved       int
	}{
		{"", "", 0}, {"out 1", "", 0}, {"const 1 2", "1", 0}, {"const 1 2, out 1", "1", 0}, {"const 1 2, out 1", "", 2}, {"const 1 2, out 1, out 1", "", 0},
		{"const 1 2, sub 3 0 1", "3", 0}, {"const 1 2, sub 3 1 0", "3", 2}, {"const 1 2, const 4 2, sub 3 1 4", "3", 4}, {"const 1 2, const 4 2, sub 3 4 1", "3", 0},
		{"const 1 2, const 2 3, const 3 4, out 3, out 2, out 1", "", 4}, {"const 2 3, mul 3 2 1, out 3, copy 4 0", "4", 4}, {"load 1 1, load 1 1, load 1 1", "1", 4},
		{"const 0 7, " + many("copy 1 0, copy 0 1", 29) + "out 0", "", 118}, {many("out 0", 30), "", 0},
		{many("out 0", 31), "", -1}, {many("const 1 2", 31), "", -1}, {many("const 1 2, out 1", 20), "", 40}, {many("const 1 2, out 1", 20), "1", 38}, {many("const 1 2, out 1", 30), "", 60}, {many("const 1 2, out 1", 30), "1", -1}, {many("const 1 2, out 1", 29), "1", 56},
	} {
		many, ok := impl.SavedBy(flatsTold(c.flats), keptTold(c.keep))
		if ok != (c.saved >= 0) || many != max(c.saved, 0) {
			t.Errorf("SavedBy(%s; %s): %d %v, not %d", c.flats, c.keep, many, ok, c.saved)
		}
		checkStack(t, flatsTold(c.flats), keptTold(c.keep))
	}
}

// Promise 16: what is used never, once and twice; by the next step with this Dst, and behind it; kept, and not.
func TestStackUsedOnce(t *testing.T) {
	for _, c := range []struct{ flats, keep, once string }{
		{"", "", ""}, {"out 1", "", "-"}, {"store 1 2", "", "-"}, {"out 1, store 1 1, out 1", "1", "- - -"},
		// each that makes a name; never, once, twice
		{"const 1 2", "", "no"}, {"copy 1 2", "", "no"}, {"add 1 2 3", "", "no"}, {"load 1 2", "", "no"},
		{"const 1 2, out 1", "", "yes -"}, {"copy 1 2, out 1", "", "yes -"}, {"add 1 2 3, out 1", "", "yes -"}, {"load 1 2, out 1", "", "yes -"},
		{"const 1 2, out 1, out 1", "", "no - -"}, {"const 1 2, out 2", "", "no -"}, {"out 1, const 1 2", "", "- no"}, {"const 1 2, out 2, out 3, out 1, out 2", "", "yes - - - -"},
		{"const 1 2, out 1, out 2, out 1", "", "no - - -"}, {"const 1 2, out 1, out 1, out 1", "", "no - - -"},
		// as an A, as a B, as both, of each step that uses
		{"const 1 2, copy 3 1", "", "yes no"}, {"const 1 2, load 3 1", "", "yes no"}, {"const 1 2, sub 3 1 2", "", "yes no"}, {"const 1 2, sub 3 2 1", "", "yes no"}, {"const 1 2, sub 3 1 1", "", "no no"},
		{"const 1 2, store 1 2", "", "yes -"}, {"const 1 2, store 2 1", "", "yes -"}, {"const 1 2, store 1 1", "", "no -"}, {"const 1 2, store 1 2, store 2 1", "", "no - -"},
		{"const 0 2, const 1 2, out 1", "", "no yes -"}, {"const 0 2, out 0", "", "yes -"}, {"const 0 2, out 1", "", "no -"}, {"const 0 2, const 3 5", "", "no no"}, {"const 0 2, copy 1 0", "", "yes no"}, {"const 7 2, sub 6 7 0", "", "yes no"},
		// the next step with this Dst
		{"const 1 2, const 1 3", "", "no no"}, {"const 1 2, const 1 3, out 1", "", "no yes -"}, {"const 1 2, out 1, const 1 3", "", "yes - no"}, {"const 1 2, out 1, const 1 3, out 1", "", "yes - yes -"}, {"const 1 2, out 1, const 1 3, out 1, out 1", "", "yes - no - -"},
		{"const 1 2, copy 1 1", "", "yes no"}, {"const 1 2, copy 1 1, out 1", "", "yes yes -"}, {"const 1 2, load 1 1, out 1, out 1", "", "yes no - -"}, {"const 1 2, sub 1 1 1, out 1", "", "no yes -"}, {"const 1 2, sub 1 1 3", "", "yes no"}, {"const 1 2, sub 1 3 1", "", "yes no"},
		{"const 1 2, out 1, sub 1 1 3", "", "no - no"}, {"const 1 2, const 1 3, out 1, out 1", "", "no no - -"}, {"const 1 2, const 3 1, const 1 3, copy 1 1", "", "no no yes no"},
		// kept
		{"const 1 2", "1", "no"}, {"const 1 2, out 1", "1", "no -"}, {"const 1 2, out 1", "0 2", "yes -"}, {"const 1 2, out 1", "0 1 2", "no -"}, {"const 1 2, out 1, out 1", "1", "no - -"},
		{"const 1 2, out 1, const 1 3", "1", "yes - no"}, {"const 1 2, out 1, const 1 3, out 1", "1", "yes - no -"}, {"const 1 2, copy 1 1", "1", "yes no"}, {"const 1 2, const 1 2", "1", "no no"}, {"const 7 2, out 7", "7", "no -"}, {"const 0 2, out 0", "0", "no -"}, {"const 0 2, out 0, load 0 3", "0", "yes - no"},
	} {
		l, keep, want := flatsTold(c.flats), keptTold(c.keep), strings.Fields(c.once)
		var got []string
		for at := -1; at <= len(l); at++ {
			is, ok := impl.UsedOnce(l, at, keep)
			switch {
			case !ok && !is && (at < 0 || at == len(l)):
			case !ok:
				got = append(got, "-")
			default:
				got = append(got, map[bool]string{true: "yes", false: "no"}[is])
			}
		}
		if !slices.Equal(got, want) {
			t.Errorf("UsedOnce(%s; %s): %v, not %v", c.flats, c.keep, got, want)
		}
		checkStack(t, l, keep)
	}
}

// Promise 16: names that are used ahead of what makes them, behind it, and by it; names that are kept.
func TestStackNeeds(t *testing.T) {
	pick := someSource()
	for _, c := range []struct{ flats, keep, needs string }{
		{"", "", ""}, {"", "3", "3"}, {"", "0 7", "0 7"}, {"", "0 1 2 3 4 5 6 7", "0 1 2 3 4 5 6 7"},
		{"const 1 2", "", ""}, {"copy 1 2", "", "2"}, {"sub 1 2 3", "", "2 3"}, {"load 1 2", "", "2"}, {"store 1 2", "", "1 2"}, {"out 1", "", "1"}, {"out 0", "", "0"}, {"out 7", "", "7"},
		// by rising names, whatever comes first
		{"out 5, out 2, out 7, out 0, out 5", "", "0 2 5 7"}, {"sub 1 7 0", "3", "0 3 7"}, {"store 6 4, store 4 6", "5", "4 5 6"}, {"out 3", "1 6", "1 3 6"},
		// ahead of what makes it, behind it, and by it
		{"out 1, const 1 2", "", "1"}, {"const 1 2, out 1", "", ""}, {"copy 1 1", "", "1"}, {"load 1 1, out 1", "", "1"}, {"sub 1 2 1, out 1", "", "1 2"}, {"sub 1 1 2", "", "1 2"},
		{"const 1 2, copy 1 1", "", ""}, {"const 1 2, sub 1 1 3, copy 3 1", "", "3"}, {"copy 2 1, copy 1 2, copy 2 1", "", "1"}, {"copy 1 2, out 1, copy 1 3", "", "2 3"}, {"const 1 2, out 1, const 1 2, out 1", "", ""}, {"out 3, const 1 2, const 3 1, out 3, out 1", "", "3"},
		// used by what is idle
		{"copy 1 2, const 1 3", "", "2"}, {"copy 1 2", "2", "2"},
		// kept
		{"const 1 2", "1", ""}, {"const 1 2", "2", "2"}, {"copy 1 2", "1", "2"}, {"copy 1 1", "1", "1"}, {"out 1", "1", "1"}, {"out 1, const 1 2", "1", "1"}, {"const 1 2, const 1 3", "0 1 2", "0 2"}, {"store 1 2", "3", "1 2 3"}, {"const 0 1, const 7 2", "0 3 7", "3"}, {"out 4, load 4 5", "4 5 6", "4 5 6"},
	} {
		x := checkStack(t, flatsTold(c.flats), keptTold(c.keep))
		if !slices.Equal(x.needs, keptTold(c.needs)) {
			t.Errorf("NeedsAhead(%s; %s): %v, not %s", c.flats, c.keep, x.needs, c.needs)
		}
		for range 5 {
			x.checkStackRun(t, grownState(pick), pick)
		}
	}
}

// Promise 16: steps that are idle, that become so when others have gone, and that are not; by each Op.
func TestStackIdle(t *testing.T) {
	for _, c := range []struct{ flats, keep, left string }{
		{"", "", ""}, {"", "1", ""}, {"const 1 2", "", ""}, {"const 1 2", "1", "const 1 2"}, {"const 1 2", "0 2", ""}, {"const 1 2, out 1", "", "const 1 2, out 1"},
		// by each Op, its Dst being used by nobody
		{"copy 1 2", "", ""}, {"add 1 2 3", "", ""}, {"sub 1 2 3", "", ""}, {"mul 1 2 3", "", ""}, {"less 1 2 3", "", ""}, {"eq 1 2 3", "", ""}, {"copy 1 1", "", ""}, {"sub 1 1 1", "", ""},
		{"div 1 2 3", "", "div 1 2 3"}, {"load 1 2", "", "load 1 2"}, {"store 1 2", "", "store 1 2"}, {"out 1", "", "out 1"},
		{"copy 1 2", "1", "copy 1 2"}, {"add 1 2 3", "1", "add 1 2 3"}, {"copy 1 1", "1", "copy 1 1"}, {"copy 0 1", "0", "copy 0 1"}, {"copy 0 1", "", ""}, {"const 0 0, out 1", "", "out 1"}, {"const 0 0, out 0", "", "const 0 0, out 0"},
		// one of several
		{"const 1 2, const 3 4, out 1", "", "const 1 2, out 1"}, {"const 1 2, const 3 4, out 3", "", "const 3 4, out 3"}, {"out 1, const 1 2", "", "out 1"}, {"out 1, const 1 2", "1", "out 1, const 1 2"}, {"store 1 2, copy 3 1, out 2", "", "store 1 2, out 2"},
		// set again ahead of any use
		{"const 1 2, const 1 3, out 1", "", "const 1 3, out 1"}, {"const 1 2, const 1 3", "1", "const 1 3"}, {"const 1 2, load 1 3", "", "load 1 3"}, {"const 1 2, div 1 3 4", "1", "div 1 3 4"}, {"const 1 2, copy 1 1, out 1", "", "const 1 2, copy 1 1, out 1"}, {"const 1 2, out 1, const 1 3", "", "const 1 2, out 1"},
		{"const 1 2, sub 1 3 1", "1", "const 1 2, sub 1 3 1"}, {"const 1 2, sub 1 1 3", "1", "const 1 2, sub 1 1 3"}, {"load 1 2, const 1 3", "1", "load 1 2, const 1 3"}, {"div 1 2 3, const 1 3", "1", "div 1 2 3, const 1 3"},
		// idle when others have gone
		{"const 1 2, copy 3 1", "", ""}, {"const 1 2, copy 3 1, copy 4 3, copy 5 4", "", ""}, {"const 1 2, copy 1 1, copy 1 1", "", ""}, {"const 1 2, copy 3 1, copy 4 3, out 3", "", "const 1 2, copy 3 1, out 3"}, {"const 1 2, const 3 4, sub 5 1 3, sub 6 5 1", "3", "const 3 4"},
		{"const 1 2, copy 3 1, const 3 5, out 3", "", "const 3 5, out 3"}, {"copy 3 1, const 1 2, copy 3 1", "1", "const 1 2"}, {"const 1 2, out 1, copy 1 1, copy 1 1", "", "const 1 2, out 1"}, {"const 1 2, copy 3 1, const 1 5, copy 4 3", "1", "const 1 5"},
		{"const 1 2, copy 2 1, const 1 3, copy 2 1, const 1 4", "1 2", "const 1 3, copy 2 1, const 1 4"},
		// used by what does not go
		{"const 1 2, load 3 1", "", "const 1 2, load 3 1"}, {"const 1 2, div 3 1 1", "", "const 1 2, div 3 1 1"}, {"const 1 2, store 1 1, copy 3 1", "", "const 1 2, store 1 1"}, {"const 1 2, div 3 1 1, copy 4 3", "", "const 1 2, div 3 1 1"}, {"copy 5 0, load 5 5, copy 5 5", "", "copy 5 0, load 5 5"},
		{many("copy 1 0, copy 0 1", 30), "", ""}, {many("copy 1 0, copy 0 1", 30), "0", many("copy 1 0, copy 0 1", 30)}, {many("const 0 1", 60), "0", "const 0 1"}, {many("load 0 0", 60), "", many("load 0 0", 60)},
	} {
		l := flatsTold(c.flats)
		left, many, ok := impl.DropIdle(l, keptTold(c.keep))
		if want := flatsTold(c.left); !slices.Equal(left, want) || many != len(l)-len(want) || !ok {
			t.Errorf("DropIdle(%s; %s): %v %d %v, not %s", c.flats, c.keep, left, many, ok, c.left)
		}
		checkStack(t, l, keptTold(c.keep))
	}
}

// allFlats goes through all good flat steps of names below a number, of some Ops, with one Do and one word.
func allFlats(names int, ops ...int) []impl.Flat {
	var all []impl.Flat
	for _, op := range ops {
		for code := range names * names * names {
			x := impl.Flat{Op: op, Dst: code % names, A: code / names % names, B: code / names / names}
			if op == impl.FxTwo {
				x.Do = impl.WSub
			}
			if goodFlatByHand(x) {
				all = append(all, x)
			}
		}
	}
	return all
}

// tallyStack counts what was met.
type tallyStack struct {
	fits, long, saved, both, mixed, set, full, dropped, again int
	hows                                                      [3]int
	most                                                      [3]int
}

func (c *tallyStack) count(x stacked) {
	if !x.fits() {
		c.long++
	} else {
		c.fits++
	}
	h := x.hand
	for _, of := range []struct {
		counter *int
		many    int
	}{{&c.saved, h.taken}, {&c.both, h.both}, {&c.mixed, h.mixed}, {&c.set, h.set}, {&c.full, h.full}, {&c.dropped, len(x.l) - len(x.left)}} {
		if of.many > 0 {
			*of.counter++
		}
	}
	if len(x.l)-len(x.left) > len(idleByHand(x.l, x.keep)) {
		c.again++
	}
	c.most[h.most]++
}

// Promise 16: all flat steps, up to three of them, of two names, and up to two of three names, whatever is kept.
func TestStackAllSmall(t *testing.T) {
	pick := someSource()
	for _, c := range []struct {
		names, many int
		ops         []int
	}{{2, 3, []int{1, 2, 3, 4, 5, 6}}, {3, 2, []int{1, 2, 3, 4, 5, 6}}, {3, 3, []int{1, 5, 6}}, {2, 4, []int{1, 2, 6}}} {
		all, met := allFlats(c.names, c.ops...), 0
		var look func(l []impl.Flat)
		look = func(l []impl.Flat) {
			met++
			for kept := range 1 << c.names {
				var keep []int
				for name := range c.names {
					if kept>>name&1 == 1 {
						keep = append(keep, name)
					}
				}
				x := checkStack(t, l, keep)
				if met%50 == 0 {
					x.checkStackValid(t)
					x.checkStackRun(t, grownState(pick), pick)
				}
			}
			for _, x := range all {
				if len(l) < c.many {
					look(append(slices.Clip(l), x))
				}
			}
		}
		look(nil)
		if met < 1000 {
			t.Errorf("so few: %d", met)
		}
	}
}

// drawnTree is good flat steps that mostly use what was made last, as trees do.
func drawnTree(pick func(int) int) []impl.Flat {
	var l []impl.Flat
	var made []int
	names := 2 + pick(7)
	for range pick(12) * (1 + pick(5)) {
		x := grownFlat(pick)
		for _, name := range []*int{&x.Dst, &x.A, &x.B} {
			*name %= min(names, 8)
		}
		_, makes := usedByHand(x)
		for i, name := range []*int{&x.B, &x.A} {
			if *name == 0 && i == 0 && x.Op != impl.FxTwo && x.Op != impl.FxStore || x.Op == impl.FxConst {
				continue
			}
			if last := len(made) - 1; last >= 0 && pick(3) > 0 {
				*name = made[last]
				made = made[:last]
			}
		}
		if l = append(l, x); len(makes) > 0 {
			made = append(made, x.Dst)
		}
	}
	return l[:min(len(l), 60)]
}

// drawnKeep is names to keep, often few.
func drawnKeep(pick func(int) int) []int {
	var keep []int
	most := 1 + pick(8)
	for name := range 8 {
		if pick(most+1) == 0 {
			keep = append(keep, name)
		}
	}
	return keep
}

// Promise 16: drawn flat steps, names and states: what is kept, the memory and what is told are the same, whatever the names have that do not matter; idle steps go in any order.
func TestStackDrawn(t *testing.T) {
	pick := someSource()
	var c tallyStack
	for range 4000 {
		l, keep := drawnTree(pick), drawnKeep(pick)
		x := checkStack(t, l, keep)
		x.checkStackValid(t)
		c.count(x)
		if left, many := dropIdleByHand(l, keep, pick); !slices.Equal(left, x.left) || many != len(l)-len(left) {
			t.Fatalf("DropIdle(%v, %v): %v, not %v", l, keep, x.left, left)
		}
		checkStack(t, x.left, keep)
		for range 3 {
			c.hows[x.checkStackRun(t, grownState(pick), pick)]++
		}
	}
	if c.fits < 2000 || c.long < 200 || c.full < 100 || min(c.saved, c.both, c.mixed, c.set, c.dropped, c.again) < 400 || min(c.hows[1], c.hows[2]) < 1500 || slices.Min(c.most[:]) < 200 {
		t.Errorf("so few of: %+v", c)
	}
}

// Promise 16: flat steps of blocks of code, and of those that BackFlow tells: the code of a block is no longer than it was.
func TestStackOfBlocks(t *testing.T) {
	pick := someSource()
	met := 0
	for range 1500 {
		lifted, _ := impl.LiftSteps(grownCode(pick))
		f, _ := impl.JoinFlow(lifted)
		s, _ := impl.MakeSsa(f)
		s, _, _ = impl.TrimParams(s)
		back, _ := impl.BackFlow(s)
		for _, b := range append(lowFlow(f), back...) {
			x := checkStack(t, b.Code, drawnKeep(pick))
			x.checkStackRun(t, grownState(pick), pick)
			if many, ok := impl.SavedBy(x.l, x.keep); ok && many > 0 {
				met++
			}
		}
	}
	if met < 500 {
		t.Errorf("so few: %d", met)
	}
}

// wrongKeeps are names that are not as said.
func wrongKeeps() [][]int {
	return [][]int{{8}, {-1}, {math.MinInt}, {math.MaxInt}, {1, 0}, {0, 0}, {7, 7}, {0, 1, 1}, {0, 2, 1}, {3, 4, 3}, {0, 8}, {-1, 0}, {0, 1, 2, 3, 4, 5, 6, 7, 8}, {0, 0, 1, 2, 3, 4, 5, 6, 7}, {7, 6, 5, 4, 3, 2, 1, 0}, make([]int, 8), make([]int, 100000), places(100000), {0, 65536}, {0, math.MaxInt}, {math.MinInt, 1}}
}

// wrongFlats are steps that are none, or have names that are none here.
func wrongFlats() []impl.Flat {
	return []impl.Flat{
		{}, {Op: -1}, {Op: 7}, {Op: math.MaxInt}, {Op: math.MinInt}, {Op: 3}, {Op: 3, Do: 3}, {Op: 3, Do: 10}, {Op: 3, Do: -1},
		{Op: 1, Dst: 8}, {Op: 1, Dst: -1}, {Op: 1, Dst: 11}, {Op: 1, Dst: 12}, {Op: 1, N: -1}, {Op: 1, N: 65536}, {Op: 1, Do: 4}, {Op: 1, A: 1}, {Op: 1, B: 1},
		{Op: 2, Dst: 8}, {Op: 2, A: 8}, {Op: 2, A: -1}, {Op: 2, B: 1}, {Op: 2, Do: 4}, {Op: 2, N: 1}, {Op: 2, Dst: math.MaxInt}, {Op: 2, A: math.MinInt},
		{Op: 3, Do: 4, Dst: 8}, {Op: 3, Do: 4, A: 8}, {Op: 3, Do: 4, B: 8}, {Op: 3, Do: 4, B: -1}, {Op: 3, Do: 4, N: 1}, {Op: 3, Do: 7, B: 12},
		{Op: 4, Dst: 8}, {Op: 4, A: 8}, {Op: 4, A: -1}, {Op: 4, B: 1}, {Op: 4, N: 1}, {Op: 4, Do: 1},
		{Op: 5, A: 8}, {Op: 5, B: 8}, {Op: 5, B: -1}, {Op: 5, Dst: 1}, {Op: 5, N: 1}, {Op: 5, Do: 4}, {Op: 6, A: 8}, {Op: 6, A: -1}, {Op: 6, B: 1}, {Op: 6, Dst: 1}, {Op: 6, N: 1}, {Op: 6, Do: 1},
	}
}

// Promise 19: steps and names that are not as said, one of them at any place, and both.
func TestStackWrong(t *testing.T) {
	good := flatsTold("const 4 1, load 5 4, sub 6 5 0, store 6 1, out 5, copy 7 6")
	for _, keep := range wrongKeeps() {
		for _, l := range [][]impl.Flat{nil, {}, good, good[:1], {{}}} {
			checkNoStack(t, l, keep)
		}
	}
	for _, x := range wrongFlats() {
		checkNoStack(t, []impl.Flat{x}, nil)
		checkNoStack(t, []impl.Flat{x, x}, []int{1})
		checkNoStack(t, slices.Repeat([]impl.Flat{x}, 60), []int{0, 7})
		for at := range len(good) + 1 {
			checkNoStack(t, slices.Insert(slices.Clone(good), at, x), []int{6})
		}
	}
	for _, many := range []int{61, 62, 1000, 100000} {
		checkNoStack(t, slices.Repeat(good[:1], many), nil)
		checkNoStack(t, make([]impl.Flat, many), []int{0})
	}
}

// Promises 16 and 19: drawn steps of which one field became another, and names of which one did.
func TestStackAnything(t *testing.T) {
	pick := someSource()
	some := []int{math.MinInt, -1, 0, 1, 2, 3, 4, 5, 6, 7, 8, 9, 10, 11, 12, 65535, 65536, math.MaxInt}
	good, wrong := 0, 0
	for range 6000 {
		l, keep := drawnTree(pick), drawnKeep(pick)
		if len(l) > 0 && pick(2) == 0 {
			x := &l[pick(len(l))]
			*append(fieldsOf(x), &x.Op)[pick(6)] = some[pick(len(some))]
		}
		if len(keep) > 0 && pick(3) == 0 {
			keep[pick(len(keep))] = some[pick(len(some))]
		}
		if !goodStackByHand(l, keep) {
			wrong++
			checkNoStack(t, l, keep)
			continue
		}
		good++
		checkStack(t, l, keep).checkStackRun(t, grownState(pick), pick)
	}
	if min(good, wrong) < 1500 {
		t.Errorf("so few of: %d as said, %d wrong", good, wrong)
	}
}

// Promise 19: nil lists and empty ones are alike.
func TestStackOfNothing(t *testing.T) {
	var flats [3]impl.Flat
	for _, l := range [][]impl.Flat{nil, {}, flats[:0], flatsTold("out 1")[:0]} {
		for _, keep := range [][]int{nil, {}, places(3)[:0], places(2)} {
			if x := checkStack(t, l, keep); len(x.code)+len(x.left) != 0 || !slices.Equal(x.needs, keep) {
				t.Error(x)
			}
		}
	}
	checkNoStack(t, flats[:], nil)
	checkNoStack(t, flats[:1], []int{})
}

// sharedFlats are good flat steps and names, with others behind them that are not.
func sharedFlats() ([]impl.Flat, []int) {
	l := flatsTold("const 4 1, load 5 4, sub 6 5 0, const 2 3, store 6 1, out 5, copy 7 6, copy 6 2")
	return append(l, impl.Flat{Op: 99, A: -3}, impl.Flat{Op: 6, A: 12}, impl.Flat{Op: 6, A: 7}), []int{1, 2, 6, 7, 7, 0, 99, -5}
}

// Promise 19: no list that is handed in is changed, nor what lies behind it; and that tells nothing.
func TestStackListsStay(t *testing.T) {
	flats, names := sharedFlats()
	before, namesBefore := sharedFlats()
	for from := range flats {
		for to := from; to <= len(flats); to++ {
			for many := range len(names) + 1 {
				l, keep := flats[from:to], names[:many]
				if !goodStackByHand(l, keep) {
					checkNoStack(t, l, keep)
					continue
				}
				x, y := checkStack(t, l, keep), checkStack(t, slices.Clip(slices.Clone(l)), slices.Clip(slices.Clone(keep)))
				if !sameSteps(x.code, y.code) || !slices.Equal(x.left, y.left) || !slices.Equal(x.needs, y.needs) {
					t.Error(x, y)
				}
			}
		}
	}
	if !slices.Equal(flats, before) || !slices.Equal(names, namesBefore) {
		t.Error(flats, names)
	}
}

// Promise 19: what is told shares no memory with what was handed in, nor with another answer.
func TestStackAnswersAreNew(t *testing.T) {
	memory, names := sharedFlats()
	before, namesBefore := sharedFlats()
	stays := func() bool { return slices.Equal(memory, before) && slices.Equal(names, namesBefore) }
	for many := range 9 {
		for kept := range 5 {
			l, keep := memory[:many], names[:kept]
			checkStepsAreNew(t, func() []impl.Step { got, _ := impl.StackBlock(l, keep); return got }, stays)
			checkListsAreNew(t, func() [][]int { got, _ := impl.NeedsAhead(l, keep); return [][]int{got} }, stays)
			checkFlowIsNew(t, func() []impl.Block { got, _, _ := impl.DropIdle(l, keep); return []impl.Block{{Code: got}} }, stays)
		}
	}
}

// Promises 16 and 19: the same answer on many runs.
func TestStackEachTime(t *testing.T) {
	pick := someSource()
	for range 200 {
		l, keep := drawnTree(pick), drawnKeep(pick)
		for range 10 {
			checkStack(t, l, keep)
		}
	}
}
