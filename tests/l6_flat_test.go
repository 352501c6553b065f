package tests

import (
	"math"
	"slices"
	"strconv"
	"strings"
	"testing"

	"loop.example/g00373/impl"
)

// flow tells the blocks of words: a semicolon between two blocks, a comma between two steps, the last of which tells where the block goes.
func flow(text string) []impl.Block {
	var out []impl.Block
	for part := range strings.SplitSeq(text, ";") {
		var b impl.Block
		for words := range strings.SplitSeq(part, ",") {
			if fields := strings.Fields(words); len(fields) > 0 {
				addTo(&b, fields[0], numbersOf(fields[1:]))
			}
		}
		out = append(out, b)
	}
	return out
}

func numbersOf(words []string) []int {
	var out []int
	for _, word := range words {
		n, err := strconv.Atoi(word)
		if err != nil {
			panic(err)
		}
		out = append(out, n)
	}
	return out
}

// addTo gives a block one flat step more, or tells it where to go.
func addTo(b *impl.Block, word string, n []int) {
	if do := slices.Index(strings.Fields("add sub mul div less eq"), word); do >= 0 {
		b.Code = append(b.Code, impl.Flat{Op: 3, Do: 4 + do, Dst: n[0], A: n[1], B: n[2]})
		return
	}
	switch word {
	case "const":
		b.Code = append(b.Code, impl.Flat{Op: 1, Dst: n[0], N: n[1]})
	case "copy":
		b.Code = append(b.Code, impl.Flat{Op: 2, Dst: n[0], A: n[1]})
	case "load":
		b.Code = append(b.Code, impl.Flat{Op: 4, Dst: n[0], A: n[1]})
	case "store":
		b.Code = append(b.Code, impl.Flat{Op: 5, A: n[0], B: n[1]})
	case "out":
		b.Code = append(b.Code, impl.Flat{Op: 6, A: n[0]})
	case "to":
		b.Go, b.Next = 1, n
	case "if":
		b.Go, b.Test, b.Next = 2, n[0], n[1:]
	case "end":
		b.Go = 3
	case "trap":
		b.Go = 4
	case "table":
		b.Go, b.Test, b.Next = 5, n[0], n[1:]
	default:
		panic(word)
	}
}

func sameBlock(a impl.Block, b impl.Block) bool {
	return a.Go == b.Go && a.Test == b.Test && slices.Equal(a.Code, b.Code) && slices.Equal(a.Next, b.Next)
}

func sameFlow(a []impl.Block, b []impl.Block) bool { return slices.EqualFunc(a, b, sameBlock) }

// copyFlow copies Code and Next, too.
func copyFlow(f []impl.Block) []impl.Block {
	out := slices.Clone(f)
	for i := range out {
		out[i].Code, out[i].Next = slices.Clone(out[i].Code), slices.Clone(out[i].Next)
	}
	return out
}

// fieldsByHand tells from where to where Do, Dst, A, B and N of a flat step go.
func fieldsByHand(op int) [5][2]int {
	var none [2]int
	name, word := [2]int{0, 11}, [2]int{0, 65535}
	switch op {
	case 1:
		return [5][2]int{none, name, none, none, word}
	case 2, 4:
		return [5][2]int{none, name, name, none, none}
	case 3:
		return [5][2]int{{4, 9}, name, name, name, none}
	case 5:
		return [5][2]int{none, none, name, name, none}
	}
	return [5][2]int{none, none, name, none, none}
}

func goodFlatByHand(x impl.Flat) bool {
	if x.Op < 1 || x.Op > 6 {
		return false
	}
	fields := fieldsByHand(x.Op)
	for i, n := range []int{x.Do, x.Dst, x.A, x.B, x.N} {
		if n < fields[i][0] || n > fields[i][1] {
			return false
		}
	}
	return true
}

func goodBlockByHand(b impl.Block, many int) bool {
	for _, x := range b.Code {
		if !goodFlatByHand(x) {
			return false
		}
	}
	for _, to := range b.Next {
		if to < 0 || to >= many {
			return false
		}
	}
	isName := b.Test >= 0 && b.Test <= 11
	switch b.Go {
	case 1:
		return len(b.Code) <= 60 && len(b.Next) == 1 && b.Test == 0
	case 2:
		return len(b.Code) <= 60 && len(b.Next) == 2 && isName
	case 3, 4:
		return len(b.Code) <= 60 && len(b.Next) == 0 && b.Test == 0
	case 5:
		return len(b.Code) <= 60 && len(b.Next) >= 2 && len(b.Next) <= 6 && isName
	}
	return false
}

func goodFlowByHand(f []impl.Block) bool {
	for _, b := range f {
		if !goodBlockByHand(b, len(f)) {
			return false
		}
	}
	return len(f) >= 1 && len(f) <= 64
}

// handFlow goes from block to block.
type handFlow struct {
	f     []impl.Block
	s     impl.State
	names map[int]int
	begun []int // the numbers of the blocks begun
	how   int
	traps [7]int // by a flat step's Op: how often it trapped
}

// plain does a flat step by what it would be as a step of code; it tells whether it does.
func (r *handFlow) plain(x impl.Flat) bool {
	a, b := r.names[x.A], r.names[x.B]
	h := handRun{s: r.s}
	var put []int
	var does bool
	switch x.Op {
	case 1:
		put, does = []int{x.N}, true
	case 2:
		put, does = []int{a}, true
	case 3:
		put, does = h.plain(impl.Step{Op: x.Do}, []int{a, b})
	case 4:
		put, does = h.plain(impl.Step{Op: 10}, []int{a})
	case 5:
		put, does = h.plain(impl.Step{Op: 11}, []int{a, b})
	case 6:
		put, does = h.plain(impl.Step{Op: 12}, []int{a})
	}
	if !does {
		r.traps[x.Op]++
		return false
	}
	r.s = h.s
	for _, word := range put {
		r.names[x.Dst] = word
	}
	return true
}

// on tells where it goes on behind a block; below 0: nowhere.
func (r *handFlow) on(b impl.Block) int {
	word := r.names[b.Test]
	switch {
	case b.Go == 1, b.Go == 2 && word != 0:
		return b.Next[0]
	case b.Go == 2:
		return b.Next[1]
	case b.Go == 5 && word < len(b.Next):
		return b.Next[word]
	case b.Go == 5:
		return b.Next[len(b.Next)-1]
	}
	return -b.Go
}

func (r *handFlow) run(fuel int) int {
	for at := 0; at >= 0; {
		if len(r.begun) == fuel {
			return 3
		}
		r.begun = append(r.begun, at)
		for _, x := range r.f[at].Code {
			if !r.plain(x) {
				return 2
			}
		}
		at = r.on(r.f[at])
		if at == -4 {
			return 2
		}
	}
	return 1
}

func flowByHand(f []impl.Block, s impl.State, fuel int) *handFlow {
	r := &handFlow{f: f, s: copyOfState(s), names: map[int]int{}}
	for i, word := range s.Locals {
		r.names[i] = word
	}
	r.how = r.run(fuel)
	for i := range r.s.Locals {
		r.s.Locals[i] = r.names[i]
	}
	return r
}

// checkFlowRun holds a run of a good flow from a good state against one by hand.
func checkFlowRun(t *testing.T, f []impl.Block, s impl.State, fuel int) *handFlow {
	t.Helper()
	r := flowByHand(f, s, fuel)
	flowBefore, stateBefore := copyFlow(f), copyOfState(s)
	got, how, begun, ok := impl.RunFlow(f, s, fuel)
	if !sameStates(got, r.s) || how != r.how || begun != len(r.begun) || !ok {
		t.Fatalf("RunFlow(%v, %v, %d): %v %d %d %v, not %v %d %d", f, s, fuel, got, how, begun, ok, r.s, r.how, len(r.begun))
	}
	if !impl.GoodState(got) {
		t.Fatalf("RunFlow(%v, %v, %d): %v", f, s, fuel, got)
	}
	if !sameFlow(f, flowBefore) || !sameStates(s, stateBefore) {
		t.Fatalf("%v %v were %v %v", f, s, flowBefore, stateBefore)
	}
	return r
}

// checkNoFlowRun looks for the zero answer.
func checkNoFlowRun(t *testing.T, f []impl.Block, s impl.State, fuel int) {
	t.Helper()
	flowBefore, stateBefore := copyFlow(f), copyOfState(s)
	if got, how, begun, ok := impl.RunFlow(f, s, fuel); !isNothing(got) || how != 0 || begun != 0 || ok {
		t.Errorf("RunFlow(%v, %v, %d): %v %d %d %v", f, s, fuel, got, how, begun, ok)
	}
	if !sameFlow(f, flowBefore) || !sameStates(s, stateBefore) {
		t.Errorf("%v %v were %v %v", f, s, flowBefore, stateBefore)
	}
}

// checkNoFlow looks for the zero answer of every function that takes a flow.
func checkNoFlow(t *testing.T, f []impl.Block) {
	t.Helper()
	before := copyFlow(f)
	if impl.GoodFlow(f) {
		t.Errorf("GoodFlow(%v)", f)
	}
	if got, ok := impl.ReachIn(f); len(got) != 0 || ok {
		t.Errorf("ReachIn(%v): %v %v", f, got, ok)
	}
	if got, ok := impl.PredsOf(f); len(got) != 0 || ok {
		t.Errorf("PredsOf(%v): %v %v", f, got, ok)
	}
	if got, numbers, ok := impl.TrimFlow(f); len(got) != 0 || len(numbers) != 0 || ok {
		t.Errorf("TrimFlow(%v): %v %v %v", f, got, numbers, ok)
	}
	if got, ok := impl.JoinFlow(f); len(got) != 0 || ok {
		t.Errorf("JoinFlow(%v): %v %v", f, got, ok)
	}
	for _, fuel := range []int{-1, 0, 1, 2000, 2001} {
		checkNoFlowRun(t, f, stateOf(1, 2), fuel)
	}
	checkNoFlowRun(t, f, impl.State{}, 5)
	if !sameFlow(f, before) {
		t.Errorf("%v was %v", f, before)
	}
}

// reachByHand looks for ways of ever more blocks.
func reachByHand(f []impl.Block) []int {
	out := []int{0}
	for range f {
		for _, at := range slices.Clone(out) {
			out = append(out, f[at].Next...)
		}
		slices.Sort(out)
		out = slices.Compact(out)
	}
	return out
}

func predsByHand(f []impl.Block) [][]int {
	out := make([][]int, len(f))
	for to := range f {
		for _, at := range reachByHand(f) {
			if slices.Contains(f[at].Next, to) {
				out[to] = append(out[to], at)
			}
		}
	}
	return out
}

// trimByHand takes the blocks that are not come to out one by one, the last one first, each time counting down the numbers above it.
func trimByHand(f []impl.Block) ([]impl.Block, []int) {
	out, numbers, reach := copyFlow(f), places(len(f)), reachByHand(f)
	for k := len(f) - 1; k >= 0; k-- {
		if slices.Contains(reach, k) {
			continue
		}
		out = slices.Delete(out, k, k+1)
		numbers[k] = -1
		for i := k + 1; i < len(numbers); i++ {
			if numbers[i] >= 0 {
				numbers[i]--
			}
		}
		for i := range out {
			for j, to := range out[i].Next {
				if to > k {
					out[i].Next[j]--
				}
			}
		}
	}
	return out, numbers
}

// joinByHand counts for each block those others, of all that are come to, that go on at it.
func joinByHand(f []impl.Block) []impl.Block {
	out := copyFlow(f)
again:
	for _, at := range reachByHand(out) {
		if out[at].Go != 1 {
			continue
		}
		to, others := out[at].Next[0], 0
		for _, other := range reachByHand(out) {
			if other != at && slices.Contains(out[other].Next, to) {
				others++
			}
		}
		code := slices.Concat(out[at].Code, out[to].Code)
		if to == at || to == 0 || others > 0 || len(code) > 60 {
			continue
		}
		out[at] = impl.Block{Code: code, Go: out[to].Go, Test: out[to].Test, Next: slices.Clone(out[to].Next)}
		goto again
	}
	out, _ = trimByHand(out)
	return out
}

// checkFlow holds all that is told of a good flow against what is worked out by hand; it tells the trimmed and the joined one.
func checkFlow(t *testing.T, f []impl.Block) ([]impl.Block, []impl.Block) {
	t.Helper()
	before := copyFlow(f)
	if !impl.GoodFlow(f) {
		t.Fatalf("GoodFlow(%v)", f)
	}
	if got, ok := impl.ReachIn(f); !slices.Equal(got, reachByHand(f)) || !ok {
		t.Fatalf("ReachIn(%v): %v %v, not %v", f, got, ok, reachByHand(f))
	}
	if got, ok := impl.PredsOf(f); !slices.EqualFunc(got, predsByHand(f), slices.Equal) || !ok {
		t.Fatalf("PredsOf(%v): %v %v, not %v", f, got, ok, predsByHand(f))
	}
	want, wantNumbers := trimByHand(f)
	trimmed, numbers, ok := impl.TrimFlow(f)
	if !sameFlow(trimmed, want) || !slices.Equal(numbers, wantNumbers) || !ok {
		t.Fatalf("TrimFlow(%v): %v %v %v, not %v %v", f, trimmed, numbers, ok, want, wantNumbers)
	}
	joined, ok := impl.JoinFlow(f)
	if want := joinByHand(f); !sameFlow(joined, want) || !ok {
		t.Fatalf("JoinFlow(%v): %v %v, not %v", f, joined, ok, want)
	}
	for _, g := range [][]impl.Block{trimmed, joined} {
		if again, numbers, ok := impl.TrimFlow(g); !sameFlow(again, g) || !slices.Equal(numbers, places(len(g))) || !ok {
			t.Fatalf("TrimFlow(%v): %v %v %v", g, again, numbers, ok)
		}
	}
	if again, ok := impl.JoinFlow(joined); !sameFlow(again, joined) || !ok {
		t.Fatalf("JoinFlow(%v): %v %v", joined, again, ok)
	}
	if !sameFlow(f, before) {
		t.Fatalf("%v was %v", f, before)
	}
	return trimmed, joined
}

// kin is a flow, and what is trimmed and joined of it.
type kin struct {
	f       []impl.Block
	trimmed []impl.Block
	joined  []impl.Block
}

// kinOf holds all that is told of a good flow against what is worked out by hand.
func kinOf(t *testing.T, f []impl.Block) kin {
	t.Helper()
	trimmed, joined := checkFlow(t, f)
	return kin{f, trimmed, joined}
}

// checkSameDone is promise 6 of a flow, and of what is trimmed and joined of it: fuel that suffices for the flow suffices for both.
func checkSameDone(t *testing.T, k kin, s impl.State, fuel int) *handFlow {
	t.Helper()
	r := checkFlowRun(t, k.f, s, fuel)
	if got, how, begun, ok := impl.RunFlow(k.trimmed, s, fuel); !sameStates(got, r.s) || how != r.how || begun != len(r.begun) || !ok {
		t.Fatalf("RunFlow of TrimFlow(%v), %v, %d: %v %d %d %v, not %v %d %d", k.f, s, fuel, got, how, begun, ok, r.s, r.how, len(r.begun))
	}
	got, how, begun, ok := impl.RunFlow(k.joined, s, fuel)
	if begun > len(r.begun) || !ok {
		t.Fatalf("RunFlow of JoinFlow(%v), %v, %d: %d %v", k.f, s, fuel, begun, ok)
	}
	if r.how != 3 && (!sameStates(got, r.s) || how != r.how) {
		t.Fatalf("RunFlow of JoinFlow(%v), %v, %d: %v %d, not %v %d", k.f, s, fuel, got, how, r.s, r.how)
	}
	return r
}

// beginsByHand tells whether a block of what LiftSteps tells begins at a place.
func beginsByHand(l []impl.Step, at int) bool {
	return at == 0 || at == len(l) || slices.Contains([]int{14, 16, 17, 18, 19, 20, 21, 22}, l[at-1].Op)
}

// flatByHand tells what a step becomes, so many words lying on the stack.
func flatByHand(x impl.Step, height int) []impl.Flat {
	top := 8 + height - 1
	switch {
	case x.Op == 1:
		return []impl.Flat{{Op: 1, Dst: top + 1, N: x.N}}
	case x.Op == 2:
		return []impl.Flat{{Op: 2, Dst: top + 1, A: x.N}}
	case x.Op == 3:
		return []impl.Flat{{Op: 2, Dst: x.N, A: top}}
	case x.Op <= 9:
		return []impl.Flat{{Op: 3, Do: x.Op, Dst: top - 1, A: top - 1, B: top}}
	case x.Op == 10:
		return []impl.Flat{{Op: 4, Dst: top, A: top}}
	case x.Op == 11:
		return []impl.Flat{{Op: 5, A: top - 1, B: top}}
	case x.Op == 12:
		return []impl.Flat{{Op: 6, A: top}}
	}
	return nil
}

// goesByHand tells where it goes behind the last step of a block: its Go, whether it tests, and the places.
func goesByHand(l []impl.Step, at int) (int, bool, []int) {
	x := l[at]
	switch x.Op {
	case 14:
		return 4, false, nil
	case 17:
		other := elseByHand(l, at)
		if other < 0 {
			other = endByHand(l, at) + 1
		}
		return 2, true, []int{at + 1, other}
	case 18:
		return 1, false, []int{endByHand(l, aroundByHand(l, at)[0]) + 1}
	case 20:
		return 1, false, []int{targetByHand(l, at, x.N)}
	case 21:
		return 2, true, []int{targetByHand(l, at, x.N), at + 1}
	case 22:
		var to []int
		for _, depth := range append(slices.Clone(x.Table), x.N) {
			to = append(to, targetByHand(l, at, depth))
		}
		return 5, true, to
	}
	return 1, false, []int{at + 1}
}

// liftByHand goes step by step, and shuts a block wherever the next place begins one.
func liftByHand(l []impl.Step) []impl.Block {
	var cut []impl.Step
	w := validByHand(l)
	for at, stays := range staysByHand(w) {
		if stays {
			cut = append(cut, l[at])
		}
	}
	heights := validByHand(cut).heights
	number := func(place int) int {
		many := 0
		for at := range place {
			if beginsByHand(cut, at) {
				many++
			}
		}
		return many
	}
	var out []impl.Block
	var b impl.Block
	for at, x := range cut {
		b.Code = append(b.Code, flatByHand(x, heights[at])...)
		if !beginsByHand(cut, at+1) {
			continue
		}
		how, tests, to := goesByHand(cut, at)
		b.Go = how
		if tests {
			b.Test = 8 + heights[at] - 1
		}
		for _, place := range to {
			b.Next = append(b.Next, number(place))
		}
		out = append(out, b)
		b = impl.Block{}
	}
	return append(out, impl.Block{Go: 3})
}

// checkLift holds blocks of valid code against those by hand, and tells them.
func checkLift(t *testing.T, l []impl.Step) []impl.Block {
	t.Helper()
	before := copySteps(l)
	f, ok := impl.LiftSteps(l)
	if want := liftByHand(l); !sameFlow(f, want) || !ok {
		t.Fatalf("LiftSteps(%v): %v %v, not %v", l, f, ok, want)
	}
	if !impl.GoodFlow(f) {
		t.Fatalf("LiftSteps(%v): %v", l, f)
	}
	if !sameSteps(l, before) {
		t.Fatalf("%v was %v", l, before)
	}
	return f
}

// checkNoLift looks for the zero answer.
func checkNoLift(t *testing.T, l []impl.Step) {
	t.Helper()
	before := copySteps(l)
	if f, ok := impl.LiftSteps(l); len(f) != 0 || ok {
		t.Errorf("LiftSteps(%v): %v %v", l, f, ok)
	}
	if !sameSteps(l, before) {
		t.Errorf("%v was %v", l, before)
	}
}

// checkSameAsCode is promise 6 of valid code and its blocks: they, and what is trimmed and joined of them, come out as it does; each block but the last has a step at least, so one unit of fuel more suffices. It tells how the code came out.
func checkSameAsCode(t *testing.T, l []impl.Step, k kin, s impl.State, fuel int) int {
	t.Helper()
	want, wantHow, many, ok := impl.RunSteps(l, s, fuel)
	if !ok {
		t.Fatalf("RunSteps(%v, %v, %d)", l, s, fuel)
	}
	checkSameDone(t, k, s, fuel)
	for _, f := range [][]impl.Block{k.f, k.trimmed, k.joined} {
		got, how, begun, ok := impl.RunFlow(f, s, min(fuel+1, impl.MaxFuel))
		if !ok {
			t.Fatalf("RunFlow(%v, %v, %d)", f, s, fuel+1)
		}
		if wantHow == impl.OutFuel || how == impl.OutFuel && fuel == impl.MaxFuel {
			continue
		}
		if !sameStates(got, want) || how != wantHow || begun > many+1 {
			t.Fatalf("RunFlow(%v, %v, %d): %v %d %d, but RunSteps(%v): %v %d %d", f, s, fuel+1, got, how, begun, l, want, wantHow, many)
		}
	}
	return wantHow
}

// Promise 6: the constants are as the document has them.
func TestFlatConstants(t *testing.T) {
	got := []int{
		impl.MaxBlocks, impl.MaxVars, impl.FxConst, impl.FxCopy, impl.FxTwo, impl.FxLoad, impl.FxStore, impl.FxOut,
		impl.GoTo, impl.GoIf, impl.GoEnd, impl.GoTrap, impl.GoTable,
	}
	if !slices.Equal(got, []int{64, 12, 1, 2, 3, 4, 5, 6, 1, 2, 3, 4, 5}) {
		t.Error(got)
	}
}

// alone is a flow with one flat step.
func alone(x impl.Flat) []impl.Block { return []impl.Block{{Code: []impl.Flat{x}, Go: 3}} }

// checkGood tells of any flow at all whether it is good, and looks for the zero answer where it is not.
func checkGood(t *testing.T, f []impl.Block) {
	t.Helper()
	if !goodFlowByHand(f) {
		checkNoFlow(t, f)
		return
	}
	if !impl.GoodFlow(f) {
		t.Errorf("GoodFlow(%v): false", f)
	}
}

// Promise 6: good flows, written out: each kind of flat step and of Go, and names and words at their ends.
func TestFlatGood(t *testing.T) {
	for _, text := range []string{
		"end", "trap", "to 0", "to 1; end", "if 0 0 0", "if 11 1 0; to 0", "table 0 0 0", "table 11 0 1 0 1 0 1; trap", "table 3 1 2 0; end; trap",
		"const 0 0, end", "const 11 65535, end", "copy 0 0, end", "copy 11 0, end", "copy 0 11, end", "copy 11 11, end",
		"add 0 0 0, end", "sub 11 0 0, end", "mul 0 11 0, end", "div 0 0 11, end", "less 11 11 11, end", "eq 3 4 5, end",
		"load 0 0, end", "load 11 0, end", "load 0 11, end", "store 0 0, end", "store 11 0, end", "store 0 11, end", "out 0, end", "out 11, end",
		"const 1 2, copy 3 1, add 4 3 1, load 5 4, store 5 4, out 3, if 3 1 2; const 9 9, to 2; out 9, trap",
	} {
		if f := flow(text); !impl.GoodFlow(f) || !goodFlowByHand(f) {
			t.Errorf("GoodFlow(%s): false", text)
		}
	}
}

// fieldsOf tells a flat step's fields, such that they can be changed.
func fieldsOf(x *impl.Flat) []*int { return []*int{&x.Do, &x.Dst, &x.A, &x.B, &x.N} }

// Promises 6 and 19: each field of each kind of flat step from below what it may be to beyond it, alone and behind others.
func TestFlatGoodFields(t *testing.T) {
	some := []int{math.MinInt, -65536, -1, 0, 1, 2, 3, 4, 5, 8, 9, 10, 11, 12, 13, 65535, 65536, 1 << 32, math.MaxInt}
	for op := 1; op <= 6; op++ {
		for i, ends := range fieldsByHand(op) {
			for _, n := range append([]int{ends[0] - 1, ends[0], ends[1], ends[1] + 1}, some...) {
				x := impl.Flat{Op: op}
				if op == impl.FxTwo {
					x.Do = impl.WAdd
				}
				*fieldsOf(&x)[i] = n
				good := n >= ends[0] && n <= ends[1]
				if got := impl.GoodFlow(alone(x)); got != good || goodFlatByHand(x) != good {
					t.Errorf("GoodFlow(%v): %v", alone(x), got)
				}
				checkGood(t, []impl.Block{{Go: 3}, {Code: []impl.Flat{{Op: 6}, {Op: 6}, x}, Go: 4}})
			}
		}
	}
	for _, op := range []int{math.MinInt, -1, 0, 7, 8, 256 + 1, math.MaxInt} {
		checkNoFlow(t, alone(impl.Flat{Op: op}))
		checkNoFlow(t, alone(impl.Flat{Op: op, Do: 4, Dst: 1, A: 1, B: 1, N: 1}))
	}
}

// Promises 6 and 19: flat steps with any fields at once.
func TestFlatGoodMixed(t *testing.T) {
	pick := someSource()
	some := []int{0, 0, 0, 0, 0, 4, 9, 11, -1, 12, 65535, 65536}
	good := 0
	for range 60000 {
		x := impl.Flat{Op: pick(8)}
		for _, field := range fieldsOf(&x) {
			*field = some[pick(len(some))]
		}
		want := goodFlatByHand(x)
		if impl.GoodFlow(alone(x)) != want {
			t.Fatalf("GoodFlow(%v): not %v", alone(x), want)
		}
		if want {
			good++
		}
	}
	if good < 500 {
		t.Error("so few are good: ", good)
	}
}

// Promises 6 and 19: each Go with as many Next as it may have, and with fewer and more; Next and Test at their ends, and beyond.
func TestFlatGoodWays(t *testing.T) {
	for _, how := range []int{math.MinInt, -1, 0, 1, 2, 3, 4, 5, 6, 256 + 1, math.MaxInt} {
		for many := range 9 {
			for _, test := range []int{math.MinInt, -1, 0, 1, 10, 11, 12, math.MaxInt} {
				next := slices.Repeat([]int{1}, many)
				checkGood(t, []impl.Block{{Go: how, Test: test, Next: next}, {Go: 3}})
				checkGood(t, []impl.Block{{Go: 3}, {Go: how, Test: test, Next: next}})
				for at := range many {
					for _, to := range []int{math.MinInt, -1, 0, 2, 3, 63, 64, math.MaxInt} {
						next := slices.Clone(next)
						next[at] = to
						checkGood(t, []impl.Block{{Go: 3}, {Go: how, Test: test, Next: next}, {Go: 4}})
					}
				}
			}
		}
		checkGood(t, []impl.Block{{Go: how, Next: make([]int, 10000)}})
	}
}

// Promises 6 and 19: no block, as many blocks as MaxBlocks and one more; 60 flat steps and one more, in the first block and in the last.
func TestFlatGoodSizes(t *testing.T) {
	for _, many := range []int{1, 2, 63, 64} {
		f := slices.Repeat(flow("end"), many)
		checkFlow(t, f)
		f[0] = impl.Block{Go: 2, Next: []int{many - 1, 0}}
		checkFlow(t, f)
		for _, at := range []int{0, many - 1} {
			for _, long := range []int{0, 1, 59, 60} {
				f[at].Code = slices.Repeat([]impl.Flat{{Op: 6}}, long)
				checkFlow(t, f)
			}
			for _, long := range []int{61, 62, 120, 1000} {
				f[at].Code = slices.Repeat([]impl.Flat{{Op: 6}}, long)
				checkNoFlow(t, f)
			}
			f[at].Code = nil
		}
		f[0].Next[0] = many
		checkNoFlow(t, f)
	}
	for _, many := range []int{65, 66, 128, 5000} {
		checkNoFlow(t, slices.Repeat(flow("end"), many))
	}
	full := slices.Repeat([]impl.Block{{Code: slices.Repeat([]impl.Flat{{Op: 3, Do: 9, Dst: 11, A: 11, B: 11}}, 60), Go: 5, Test: 11, Next: []int{63, 62, 61, 60, 59, 0}}}, 64)
	checkFlow(t, full)
	checkNoFlow(t, nil)
	checkNoFlow(t, []impl.Block{})
	checkNoFlow(t, flow("end")[:0])
	checkNoFlow(t, []impl.Block{{}})
}

// liftCase is code and the blocks that it is.
type liftCase struct {
	code string
	flow string
}

func checkLifts(t *testing.T, cases []liftCase) {
	t.Helper()
	for _, c := range cases {
		l := code(c.code)
		if f, ok := impl.LiftSteps(l); !sameFlow(f, flow(c.flow)) || !ok {
			t.Errorf("LiftSteps(%s): %v %v, not %v", c.code, f, ok, flow(c.flow))
		}
		k := kinOf(t, checkLift(t, l))
		for a := range 4 {
			checkSameAsCode(t, l, k, stateOf(a, 3), 200)
		}
	}
}

// Promise 6: each Op alone, the flat step that it becomes, and its names, at each height.
func TestFlatEachOp(t *testing.T) {
	cases := []liftCase{
		{"", "end"},
		{"const 5, drop", "const 8 5, to 1; end"},
		{"const 65535, const 0, drop, drop", "const 8 65535, const 9 0, to 1; end"},
		{"get 3, set 4", "copy 8 3, copy 4 8, to 1; end"},
		{"get 0, get 7, set 0, set 7", "copy 8 0, copy 9 7, copy 0 9, copy 7 8, to 1; end"},
		{"const 1, load, drop", "const 8 1, load 8 8, to 1; end"},
		{"const 1, const 2, store", "const 8 1, const 9 2, store 8 9, to 1; end"},
		{"get 7, out", "copy 8 7, out 8, to 1; end"},
		{"trap", "trap; end"},
		{"block, end", "to 1; end"},
		{"loop, end", "to 1; to 2; end"},
		{"get 0, if, end", "copy 8 0, if 8 1 2; to 2; end"},
		{"get 0, if, else, end", "copy 8 0, if 8 1 2; to 3; to 3; end"},
		{"br 0", "to 1; end"},
		{"get 0, brif 0", "copy 8 0, if 8 1 1; end"},
		{"get 0, table 0 0", "copy 8 0, table 8 1 1; end"},
		{"get 0, table 0 0 0 0 0", "copy 8 0, table 8 1 1 1 1 1; end"},
		{"const 1, const 2, const 3, const 4, add, mul, sub, drop", "const 8 1, const 9 2, const 10 3, const 11 4, add 10 10 11, mul 9 9 10, sub 8 8 9, to 1; end"},
	}
	ahead, flatAhead, behind := "", "", ""
	for height := range 4 {
		top := strconv.Itoa(8 + height)
		cases = append(cases,
			liftCase{ahead + "const 6, drop" + behind, flatAhead + "const " + top + " 6, to 1; end"},
			liftCase{ahead + "get 5, out" + behind, flatAhead + "copy " + top + " 5, out " + top + ", to 1; end"},
			liftCase{ahead + "get 5, set 6" + behind, flatAhead + "copy " + top + " 5, copy 6 " + top + ", to 1; end"},
			liftCase{ahead + "get 5, load, drop" + behind, flatAhead + "copy " + top + " 5, load " + top + " " + top + ", to 1; end"},
			liftCase{ahead + "get 5, brif 0" + behind, flatAhead + "copy " + top + " 5, if " + top + " " + []string{"1 1; end", "2 1; to 2; end"}[min(height, 1)]},
			liftCase{ahead + "get 5, if, end" + behind, flatAhead + "copy " + top + " 5, if " + top + " 1 2; to 2; " + []string{"end", "to 3; end"}[min(height, 1)]},
			liftCase{ahead + "get 5, table 0 0", flatAhead + "copy " + top + " 5, table " + top + " 1 1; end"},
		)
		if height < 3 {
			above := strconv.Itoa(9 + height)
			for _, word := range strings.Fields("add sub mul div less eq") {
				cases = append(cases, liftCase{ahead + "get 0, get 1," + word + ", drop" + behind, flatAhead + "copy " + top + " 0, copy " + above + " 1, " + word + " " + top + " " + top + " " + above + ", to 1; end"})
			}
			cases = append(cases, liftCase{ahead + "get 0, get 1, store" + behind, flatAhead + "copy " + top + " 0, copy " + above + " 1, store " + top + " " + above + ", to 1; end"})
		}
		ahead += "const 7,"
		flatAhead += "const " + top + " 7,"
		behind += ", drop"
	}
	checkLifts(t, cases)
}

// Promise 6: where blocks begin: behind each step that the chapter lists, one for each place where two of them meet, and where code ends with one of them.
func TestFlatPlaces(t *testing.T) {
	checkLifts(t, []liftCase{
		{"const 1, out, const 2, out", "const 8 1, out 8, const 8 2, out 8, to 1; end"},
		{"block, const 1, out, end, const 2, out", "const 8 1, out 8, to 1; const 8 2, out 8, to 2; end"},
		{"const 1, out, block, const 2, out, end", "const 8 1, out 8, const 8 2, out 8, to 1; end"},
		{"const 1, out, loop, const 2, out, end", "const 8 1, out 8, to 1; const 8 2, out 8, to 2; end"},
		// a WEnd behind a WEnd
		{"block, block, end, end", "to 1; to 2; end"},
		{"block, block, end, end, const 1, out", "to 1; to 2; const 8 1, out 8, to 3; end"},
		{"loop, loop, end, end", "to 1; to 2; to 3; to 4; end"},
		// a WLoop right behind a WElse, a WIf, a WEnd, a WBrIf, a WLoop
		{"get 0, if, else, loop, end, end", "copy 8 0, if 8 1 2; to 5; to 3; to 4; to 5; end"},
		{"get 0, if, loop, end, end", "copy 8 0, if 8 1 4; to 2; to 3; to 4; end"},
		{"block, end, loop, end", "to 1; to 2; to 3; end"},
		{"block, get 0, brif 0, loop, end, end", "copy 8 0, if 8 4 1; to 2; to 3; to 4; end"},
		// a WBlock begins none
		{"block, block, block, const 1, out, end, end, end", "const 8 1, out 8, to 1; to 2; to 3; end"},
		{"get 0, if, block, const 1, out, end, end", "copy 8 0, if 8 1 3; const 8 1, out 8, to 2; to 3; end"},
		// a step ahead of each of them
		{"const 1, out, br 0", "const 8 1, out 8, to 1; end"},
		{"const 1, out, trap", "const 8 1, out 8, trap; end"},
		{"const 1, out, get 0, brif 0", "const 8 1, out 8, copy 8 0, if 8 1 1; end"},
		{"const 1, out, get 0, if, end", "const 8 1, out 8, copy 8 0, if 8 1 2; to 2; end"},
		{"block, const 1, out, end", "const 8 1, out 8, to 1; end"},
		{"loop, const 1, out, end", "to 1; const 8 1, out 8, to 2; end"},
	})
	f := checkLift(t, code(many("loop, end", 30)))
	if len(f) != 61 || f[0].Next[0] != 1 || f[59].Next[0] != 60 || f[60].Go != impl.GoEnd {
		t.Error(f)
	}
	f = checkLift(t, code(many("const 1, out", 30)))
	if len(f) != 2 || len(f[0].Code) != 60 || f[0].Go != impl.GoTo || f[0].Next[0] != 1 {
		t.Error(f)
	}
}

// Promise 6: a WIf with and without a WElse, within others, with words on the stack, and a WElse that is come to.
func TestFlatChoices(t *testing.T) {
	checkLifts(t, []liftCase{
		{"get 0, if, const 1, out, else, const 2, out, end, const 3, out", "copy 8 0, if 8 1 2; const 8 1, out 8, to 3; const 8 2, out 8, to 3; const 8 3, out 8, to 4; end"},
		{"get 0, if, const 1, out, end, const 3, out", "copy 8 0, if 8 1 2; const 8 1, out 8, to 2; const 8 3, out 8, to 3; end"},
		{"get 0, if, else, const 2, out, end, const 3, out", "copy 8 0, if 8 1 2; to 3; const 8 2, out 8, to 3; const 8 3, out 8, to 4; end"},
		{"get 0, if, const 1, out, else, end, const 3, out", "copy 8 0, if 8 1 2; const 8 1, out 8, to 3; to 3; const 8 3, out 8, to 4; end"},
		{"const 9, get 0, if, const 1, out, else, const 2, out, end, out", "const 8 9, copy 9 0, if 9 1 2; const 9 1, out 9, to 3; const 9 2, out 9, to 3; out 8, to 4; end"},
		// what lies within it has a WElse of its own
		{"get 0, if, get 1, if, else, const 5, out, end, end", "copy 8 0, if 8 1 5; copy 8 1, if 8 2 3; to 4; const 8 5, out 8, to 4; to 5; end"},
		{"get 0, if, get 1, if, end, else, const 4, out, end", "copy 8 0, if 8 1 4; copy 8 1, if 8 2 3; to 3; to 5; const 8 4, out 8, to 5; end"},
		// a WElse that is not come to is a block all the same
		{"get 0, if, trap, else, const 2, out, end", "copy 8 0, if 8 1 3; trap; to 4; const 8 2, out 8, to 4; end"},
		{"get 0, if, br 1, else, const 2, out, end, const 3, out", "copy 8 0, if 8 1 3; to 5; to 4; const 8 2, out 8, to 4; const 8 3, out 8, to 5; end"},
		{"get 0, if, br 0, else, br 0, end", "copy 8 0, if 8 1 3; to 5; to 5; to 5; to 5; end"},
	})
}

// Promise 6: jumps out of a block, back to a WLoop, right behind that step, and out of all code; and what lies on the stack then.
func TestFlatJumps(t *testing.T) {
	const far = "const 9, block, const 6, block, const 7, const 8, br 1, end, drop, end, out"
	flat := func(to string) string {
		return "const 8 9, const 9 6, const 10 7, const 11 8, to " + to + "; to 2; to 3; out 8, to 4; end"
	}
	checkLifts(t, []liftCase{
		{"block, br 0, end, const 1, out", "to 2; to 2; const 8 1, out 8, to 3; end"},
		{"const 9, block, const 7, const 8, br 0, end, out", "const 8 9, const 9 7, const 10 8, to 2; to 2; out 8, to 3; end"},
		{far, flat("3")},
		{strings.Replace(far, "br 1", "br 0", 1), flat("2")},
		{strings.Replace(far, "br 1", "br 2", 1), flat("4")},
		{"const 9, block, const 7, get 0, brif 0, out, end, out", "const 8 9, const 9 7, copy 10 0, if 10 2 1; out 9, to 2; out 8, to 3; end"},
		{"get 0, brif 0, const 1, out", "copy 8 0, if 8 2 1; const 8 1, out 8, to 2; end"},
		// back to a WLoop
		{"loop, br 0, end", "to 1; to 1; to 3; end"},
		{"loop, get 0, brif 0, end", "to 1; copy 8 0, if 8 1 2; to 3; end"},
		{"const 5, out, loop, const 1, out, get 0, brif 0, const 2, out, end, const 3, out", "const 8 5, out 8, to 1; const 8 1, out 8, copy 8 0, if 8 1 2; const 8 2, out 8, to 3; const 8 3, out 8, to 4; end"},
		{"const 9, loop, const 7, get 0, brif 0, drop, end, out", "const 8 9, to 1; const 9 7, copy 10 0, if 10 1 2; to 3; out 8, to 4; end"},
		{"loop, block, get 0, brif 1, br 0, end, end", "to 1; copy 8 0, if 8 1 2; to 4; to 4; to 5; end"},
		{"loop, get 0, if, br 1, end, end", "to 1; copy 8 0, if 8 2 4; to 1; to 4; to 5; end"},
		{"loop, loop, get 0, brif 0, get 1, brif 1, br 2, end, end", "to 1; to 2; copy 8 0, if 8 2 3; copy 8 1, if 8 1 4; to 7; to 6; to 7; end"},
		// tables
		{"block, block, loop, get 0, table 0 1 2 3, end, end, end, const 1, out", "to 1; copy 8 0, table 8 1 4 5 6; to 3; to 4; to 5; const 8 1, out 8, to 6; end"},
		{"const 9, block, const 7, get 0, table 1 0 1, end, out", "const 8 9, const 9 7, copy 10 0, table 10 3 2 3; to 2; out 8, to 3; end"},
		{"block, get 0, if, get 1, table 2 1 0, end, end", "copy 8 0, if 8 1 3; copy 8 1, table 8 4 4 3; to 3; to 4; end"},
	})
}

// Promise 6: what is dead is cut ahead of all else; WElse and WEnd of what stays are blocks, though they be dead.
func TestFlatDead(t *testing.T) {
	checkLifts(t, []liftCase{
		{"const 1, out, trap, const 2, out", "const 8 1, out 8, trap; end"},
		{"br 0, trap", "to 1; end"},
		{"br 0, br 0, br 0", "to 1; end"},
		{"trap, trap", "trap; end"},
		{"trap, add, drop", "trap; end"},
		{"br 0, loop, const 1, brif 0, end", "to 1; end"},
		{"block, br 0, const 1, if, trap, else, end, drop, end, const 1, out", "to 2; to 2; const 8 1, out 8, to 3; end"},
		{"block, trap, end, const 1, out", "trap; to 2; const 8 1, out 8, to 3; end"},
		{"loop, trap, block, loop, br 0, end, end, end", "to 1; trap; to 3; end"},
		{"get 0, table 0 0, const 1, out, get 0, if, else, end", "copy 8 0, table 8 1 1; end"},
		{"get 0, if, br 0, const 1, out, else, const 1, out, end", "copy 8 0, if 8 1 3; to 4; to 4; const 8 1, out 8, to 4; end"},
		{"block, block, br 1, out, end, const 1, out, end", "to 3; to 2; const 8 1, out 8, to 3; end"},
	})
}

// Promise 19: code that is not good, and code that is good and not valid.
func TestFlatWrongCode(t *testing.T) {
	for _, l := range append(notGood(), notValid()...) {
		checkNoLift(t, l)
	}
}

// Promise 6: all short code that is valid.
func TestFlatAllShort(t *testing.T) {
	for _, c := range []struct {
		steps string
		most  int
		least int
	}{
		{"const 0, get 0, out, trap, block, loop, if, else, end, br 0, br 1, brif 0, table 0 1", 5, 1000},
		{"const 0, const 2, get 0, sub, div, less, load, store, set 0, out, drop", 5, 1000},
		{"get 0, if, else, loop, end, br 1, brif 0", 7, 500},
	} {
		valid := 0
		for _, l := range allOf(code(c.steps), c.most) {
			if _, _, ok := impl.ValidSteps(l); !ok {
				if f, ok := impl.LiftSteps(l); len(f) != 0 || ok {
					t.Fatalf("LiftSteps(%v): %v %v", l, f, ok)
				}
				continue
			}
			valid++
			k := kinOf(t, checkLift(t, l))
			checkSameAsCode(t, l, k, stateOf(1, 0), 20)
			checkSameAsCode(t, l, k, stateOf(0, 0), 3)
		}
		if valid < c.least {
			t.Error("so few are valid: ", valid)
		}
	}
}

// Promise 6: long code of all steps from states of all kinds, with fuels of all kinds.
func TestFlatMixedCode(t *testing.T) {
	pick := someSource()
	var hows, goes [6]int
	var kinds [7]int
	blocks := 0
	for range 4000 {
		l, s := grownCode(pick), grownState(pick)
		f := checkLift(t, l)
		k := kinOf(t, f)
		for _, fuel := range []int{0, 1 + pick(20), 300, impl.MaxFuel} {
			if how := checkSameAsCode(t, l, k, s, fuel); fuel == 300 {
				hows[how]++
			}
		}
		blocks = max(blocks, len(f))
		for _, at := range flowByHand(f, s, 300).begun {
			goes[f[at].Go]++
			for _, x := range f[at].Code {
				kinds[x.Op]++
			}
		}
	}
	if slices.Min(hows[1:4]) < 100 || slices.Min(goes[1:]) < 100 || slices.Min(kinds[1:]) < 100 || blocks < 20 {
		t.Errorf("so few of: %v %v %v, %d blocks at most", hows, goes, kinds, blocks)
	}
}

// flowCase is a flow that is run from a state with the locals 0 to 7 and Mem 100 to 115, with MaxFuel, how it comes out, what is told, and which blocks were begun.
type flowCase struct {
	text  string
	how   int
	told  []int
	begun []int
}

func risingState() impl.State {
	s := impl.State{Locals: places(8), Mem: places(16)}
	for i := range s.Mem {
		s.Mem[i] += 100
	}
	return s
}

// checkFlows looks at the case, and then at the same flow with all fuels up to what it needs and two more.
func checkFlows(t *testing.T, cases []flowCase) {
	t.Helper()
	for _, c := range cases {
		f, s := flow(c.text), risingState()
		got, how, begun, ok := impl.RunFlow(f, s, impl.MaxFuel)
		if how != c.how || !slices.Equal(got.Told, c.told) || begun != len(c.begun) || !ok {
			t.Errorf("RunFlow(%s): %d %d %v %v, not %d %d %v", c.text, how, begun, got.Told, ok, c.how, len(c.begun), c.told)
		}
		k := kinOf(t, f)
		for fuel := range len(c.begun) + 3 {
			r := checkSameDone(t, k, s, fuel)
			if want := c.begun[:min(fuel, len(c.begun))]; !slices.Equal(r.begun, want) {
				t.Errorf("%s: with %d begun %v, not %v", c.text, fuel, r.begun, want)
			}
			wantHow := c.how
			if fuel < len(c.begun) {
				wantHow = impl.OutFuel
			}
			if _, how, begun, ok := impl.RunFlow(f, s, fuel); how != wantHow || begun != min(fuel, len(c.begun)) || !ok {
				t.Errorf("RunFlow(%s, %d): %d %d %v, not %d", c.text, fuel, how, begun, ok, wantHow)
			}
		}
	}
}

// Promise 6: each flat step, and each Go.
func TestFlatRuns(t *testing.T) {
	checkFlows(t, []flowCase{
		{"end", impl.OutEnd, nil, []int{0}},
		{"trap", impl.OutTrap, nil, []int{0}},
		{"const 3 65535, out 3, const 3 0, out 3, end", impl.OutEnd, []int{65535, 0}, []int{0}},
		{"copy 11 7, out 11, out 7, copy 7 2, out 7, copy 7 7, out 7, end", impl.OutEnd, []int{7, 7, 2, 2}, []int{0}},
		{"add 11 3 4, out 11, end", impl.OutEnd, []int{7}, []int{0}},
		{"sub 11 7 2, sub 10 2 7, out 11, out 10, end", impl.OutEnd, []int{5, 65531}, []int{0}},
		{"mul 3 3 4, out 3, end", impl.OutEnd, []int{12}, []int{0}},
		{"div 4 7 2, out 4, div 2 2 7, out 2, end", impl.OutEnd, []int{3, 0}, []int{0}},
		{"less 8 2 7, out 8, less 8 7 2, out 8, less 8 7 7, out 8, end", impl.OutEnd, []int{1, 0, 0}, []int{0}},
		{"eq 8 2 7, out 8, eq 7 7 7, out 7, end", impl.OutEnd, []int{0, 1}, []int{0}},
		{"load 8 0, out 8, const 9 15, load 9 9, out 9, end", impl.OutEnd, []int{100, 115}, []int{0}},
		{"store 3 7, load 8 3, out 8, load 8 7, out 8, end", impl.OutEnd, []int{7, 107}, []int{0}},
		{"const 8 15, const 9 65535, store 8 9, load 8 8, out 8, end", impl.OutEnd, []int{65535}, []int{0}},
		// names beyond the locals are 0 at first
		{"out 8, out 9, out 10, out 11, out 7, end", impl.OutEnd, []int{0, 0, 0, 0, 7}, []int{0}},
		{"to 1; if 8 0 2; out 8, end", impl.OutEnd, []int{0}, []int{0, 1, 2}},
		// where it goes
		{"out 1, to 2; out 2, end; out 3, to 1", impl.OutEnd, []int{1, 3, 2}, []int{0, 2, 1}},
		{"if 1 1 2; out 5, end; out 6, end", impl.OutEnd, []int{5}, []int{0, 1}},
		{"if 7 1 2; out 5, end; out 6, end", impl.OutEnd, []int{5}, []int{0, 1}},
		{"if 0 1 2; out 5, end; out 6, end", impl.OutEnd, []int{6}, []int{0, 2}},
		{"if 11 1 2; out 5, end; out 6, trap", impl.OutTrap, []int{6}, []int{0, 2}},
		{"out 1, to 1; trap", impl.OutTrap, []int{1}, []int{0, 1}},
		// Test is looked at behind the Code
		{"const 0 1, if 0 1 2; out 5, end; out 6, end", impl.OutEnd, []int{5}, []int{0, 1}},
		{"const 7 0, if 7 1 2; out 5, end; out 6, end", impl.OutEnd, []int{6}, []int{0, 2}},
		// a loop: 3, 2, 1
		{"const 8 1, to 1; out 3, sub 3 3 8, if 3 1 2; end", impl.OutEnd, []int{3, 2, 1}, []int{0, 1, 1, 1, 2}},
		// back to block 0
		{"out 2, const 8 1, sub 2 2 8, if 2 0 1; end", impl.OutEnd, []int{2, 1}, []int{0, 0, 1}},
	})
}

// Promise 6: a GoTable at 0, at the last one, one behind it, and far behind it.
func TestFlatRunTables(t *testing.T) {
	const behind = "; out 1, end; out 2, end; out 3, end; out 4, end; out 5, end; out 6, end"
	var cases []flowCase
	for many := 2; many <= 6; many++ {
		next := ""
		for to := range many {
			next += " " + strconv.Itoa(to+1)
		}
		for _, word := range []int{0, 1, 2, 3, 4, 5, 6, 7, 100, 65535} {
			to := min(word+1, many)
			text := "const 11 " + strconv.Itoa(word) + ", table 11" + next + behind
			cases = append(cases, flowCase{text, impl.OutEnd, []int{to}, []int{0, to}})
		}
	}
	checkFlows(t, append(cases, []flowCase{
		{"table 0 1 2 3" + behind, impl.OutEnd, []int{1}, []int{0, 1}},
		{"table 1 1 2 3" + behind, impl.OutEnd, []int{2}, []int{0, 2}},
		{"table 2 1 2 3" + behind, impl.OutEnd, []int{3}, []int{0, 3}},
		{"table 7 1 2 3" + behind, impl.OutEnd, []int{3}, []int{0, 3}},
		{"table 1 4 2 4" + behind, impl.OutEnd, []int{2}, []int{0, 2}},
		{"table 7 4 2 4" + behind, impl.OutEnd, []int{4}, []int{0, 4}},
		{"const 8 1, sub 2 2 8, table 2 1 0 0; out 1, end", impl.OutEnd, []int{1}, []int{0, 0, 1}},
	}...))
}

// Promise 6: flat steps that trap, right ahead of which nothing traps, and the state then: what was done ahead of it in its block is done.
func TestFlatRunTraps(t *testing.T) {
	checkFlows(t, []flowCase{
		{"out 1, div 7 7 0, out 2, end", impl.OutTrap, []int{1}, []int{0}},
		{"out 1, div 7 0 0, out 2, end", impl.OutTrap, []int{1}, []int{0}},
		{"out 1, div 7 0 7, out 7, end", impl.OutEnd, []int{1, 0}, []int{0}},
		{"const 8 15, load 9 8, out 9, end", impl.OutEnd, []int{115}, []int{0}},
		{"const 8 16, load 9 8, out 9, end", impl.OutTrap, nil, []int{0}},
		{"const 8 65535, load 9 8, out 9, end", impl.OutTrap, nil, []int{0}},
		{"const 8 15, store 8 7, out 1, end", impl.OutEnd, []int{1}, []int{0}},
		{"const 8 16, store 8 7, out 1, end", impl.OutTrap, nil, []int{0}},
		{"const 8 16, store 7 8, out 1, end", impl.OutEnd, []int{1}, []int{0}},
		{"const 8 65535, store 8 7, out 1, end", impl.OutTrap, nil, []int{0}},
		{"out 1, to 1; out 2, div 3 3 0, to 2; out 4, end", impl.OutTrap, []int{1, 2}, []int{0, 1}},
		// it traps ahead of where it would end, trap or go
		{"div 3 3 0, trap", impl.OutTrap, nil, []int{0}},
		{"div 3 3 0, if 3 0 0", impl.OutTrap, nil, []int{0}},
	})
	for _, c := range []struct {
		text   string
		change func(*impl.State)
	}{
		{"trap", func(*impl.State) {}},
		{"div 1 1 0, const 2 9, end", func(*impl.State) {}},
		{"const 5 9, copy 6 5, const 8 3, store 7 8, out 8, div 5 5 0, const 1 1, end", func(s *impl.State) { s.Locals[5], s.Locals[6], s.Mem[7], s.Told = 9, 9, 3, []int{3} }},
		{"const 7 16, load 6 7, const 1 1, end", func(s *impl.State) { s.Locals[7] = 16 }},
		{"const 7 16, store 7 7, const 1 1, end", func(s *impl.State) { s.Locals[7] = 16 }},
		{"const 7 16, to 1; const 6 15, store 6 7, trap", func(s *impl.State) { s.Locals[7], s.Locals[6], s.Mem[15] = 16, 15, 16 }},
	} {
		want := risingState()
		c.change(&want)
		if got, how, _, ok := impl.RunFlow(flow(c.text), risingState(), 5); !sameStates(got, want) || how != impl.OutTrap || !ok {
			t.Errorf("RunFlow(%s): %v %d %v, not %v", c.text, got, how, ok, want)
		}
	}
}

// Promise 6: as many words as MaxTold are told, and no more.
func TestFlatRunTold(t *testing.T) {
	for _, c := range []struct{ ahead, more, how, told int }{
		{0, 60, 1, 60}, {40, 60, 1, 100}, {41, 59, 1, 100}, {41, 60, 2, 100}, {99, 1, 1, 100}, {99, 2, 2, 100}, {100, 0, 1, 100}, {100, 1, 2, 100},
	} {
		f := []impl.Block{{Code: slices.Repeat([]impl.Flat{{Op: 6, A: 7}}, c.more), Go: 3}}
		s := risingState()
		s.Told = slices.Repeat([]int{60000}, c.ahead)
		checkFlowRun(t, f, s, 1)
		got, how, begun, ok := impl.RunFlow(f, s, 1)
		want := append(slices.Clone(s.Told), slices.Repeat([]int{7}, c.told-c.ahead)...)
		if !slices.Equal(got.Told, want) || how != c.how || begun != 1 || !ok {
			t.Errorf("RunFlow: %d told ahead, %d more: %v %d %d %v", c.ahead, c.more, got.Told, how, begun, ok)
		}
	}
	f, s := flow("const 8 1, to 1; out 8, to 1"), stateOf(0, 0)
	if got, how, begun, ok := impl.RunFlow(f, s, impl.MaxFuel); len(got.Told) != 100 || how != impl.OutTrap || begun != 102 || !ok {
		t.Error(got, how, begun, ok)
	}
}

// Promises 6 and 19: fuel of 0, fuel that is met just at the end, one less, MaxFuel, one more, below 0, and flows without end.
func TestFlatRunFuel(t *testing.T) {
	const down = "const 8 1, to 1; sub 0 0 8, if 0 1 2; end"
	for _, c := range []struct {
		text  string
		a     int
		fuel  int
		how   int
		begun int
	}{
		{"end", 0, 0, impl.OutFuel, 0},
		{"end", 0, 1, impl.OutEnd, 1},
		{"end", 0, 2, impl.OutEnd, 1},
		{"end", 0, 2000, impl.OutEnd, 1},
		{"trap", 0, 0, impl.OutFuel, 0},
		{"trap", 0, 1, impl.OutTrap, 1},
		{"div 0 0 1, end", 0, 0, impl.OutFuel, 0},
		{"div 0 0 1, end", 0, 1, impl.OutTrap, 1},
		{"to 1; end", 0, 1, impl.OutFuel, 1},
		{"to 1; end", 0, 2, impl.OutEnd, 2},
		{"to 1; trap", 0, 1, impl.OutFuel, 1},
		{"to 1; trap", 0, 2, impl.OutTrap, 2},
		{down, 1, 2, impl.OutFuel, 2},
		{down, 1, 3, impl.OutEnd, 3},
		{down, 1998, 2000, impl.OutEnd, 2000},
		{down, 1998, 1999, impl.OutFuel, 1999},
		{down, 1999, 2000, impl.OutFuel, 2000},
		{"to 0", 0, 0, impl.OutFuel, 0},
		{"to 0", 0, 1, impl.OutFuel, 1},
		{"to 0", 0, 2000, impl.OutFuel, 2000},
		{"to 1; to 0", 0, 1999, impl.OutFuel, 1999},
		{"if 0 0 1; table 1 0 1", 0, 2000, impl.OutFuel, 2000},
	} {
		f, s := flow(c.text), stateOf(c.a, 0)
		checkFlowRun(t, f, s, c.fuel)
		if _, how, begun, ok := impl.RunFlow(f, s, c.fuel); how != c.how || begun != c.begun || !ok {
			t.Errorf("RunFlow(%s, %d, %d): %d %d %v, not %d %d", c.text, c.a, c.fuel, how, begun, ok, c.how, c.begun)
		}
		for _, fuel := range []int{math.MinInt, -2000, -1, 2001, 2002, 1 << 32, math.MaxInt} {
			checkNoFlowRun(t, f, s, fuel)
		}
	}
	// what the blocks begun did is there where fuel runs out
	got, _, _, _ := impl.RunFlow(flow("const 7 9, out 7, to 1; store 1 7, to 2; end"), risingState(), 2)
	want := risingState()
	want.Locals[7], want.Told, want.Mem[1] = 9, []int{9}, 9
	if !sameStates(got, want) {
		t.Error(got)
	}
}

// Promise 19: states that are not good.
func TestFlatWrongStates(t *testing.T) {
	for _, s := range wrongStates() {
		for _, text := range []string{"end", "trap", "out 0, end", "to 0"} {
			checkNoFlowRun(t, flow(text), s, 0)
			checkNoFlowRun(t, flow(text), s, 10)
		}
	}
}

// Promise 6: which blocks are come to, which lead to which, and what is left, written out.
func TestFlatReach(t *testing.T) {
	for _, c := range []struct {
		text    string
		reach   []int
		preds   [][]int
		trimmed string
		numbers []int
	}{
		{"end", []int{0}, [][]int{nil}, "end", []int{0}},
		{"to 0", []int{0}, [][]int{{0}}, "to 0", []int{0}},
		{"end; end", []int{0}, [][]int{nil, nil}, "end", []int{0, -1}},
		{"end; to 0", []int{0}, [][]int{nil, nil}, "end", []int{0, -1}},
		{"end; to 1", []int{0}, [][]int{nil, nil}, "end", []int{0, -1}},
		{"end; to 2; to 1", []int{0}, [][]int{nil, nil, nil}, "end", []int{0, -1, -1}},
		{"to 2; trap; end", []int{0, 2}, [][]int{nil, nil, {0}}, "to 1; end", []int{0, -1, 1}},
		{"to 2; to 2; out 3, end", []int{0, 2}, [][]int{nil, nil, {0}}, "to 1; out 3, end", []int{0, -1, 1}},
		{"if 0 2 2; to 3; end; to 1", []int{0, 2}, [][]int{nil, nil, {0}, nil}, "if 0 1 1; end", []int{0, -1, 1, -1}},
		{"table 5 4 2 4 2; to 2; end; if 1 4 0; to 2", []int{0, 2, 4}, [][]int{nil, nil, {0, 4}, nil, {0}}, "table 5 2 1 2 1; end; to 1", []int{0, -1, 1, -1, 2}},
		{"to 3; to 0; to 1; to 2", []int{0, 1, 2, 3}, [][]int{{1}, {2}, {3}, {0}}, "to 3; to 0; to 1; to 2", []int{0, 1, 2, 3}},
		{"to 4; end; end; end; if 11 4 5; to 0", []int{0, 4, 5}, [][]int{{5}, nil, nil, nil, {0, 4}, {4}}, "to 1; if 11 1 2; to 0", []int{0, -1, -1, -1, 1, 2}},
		{"if 3 1 2; to 3; to 3; table 2 0 3 3; to 3", []int{0, 1, 2, 3}, [][]int{{3}, {0}, {0}, {1, 2, 3}, nil}, "if 3 1 2; to 3; to 3; table 2 0 3 3", []int{0, 1, 2, 3, -1}},
	} {
		f := flow(c.text)
		checkFlow(t, f)
		if got, ok := impl.ReachIn(f); !slices.Equal(got, c.reach) || !ok {
			t.Errorf("ReachIn(%s): %v %v, not %v", c.text, got, ok, c.reach)
		}
		if got, ok := impl.PredsOf(f); !slices.EqualFunc(got, c.preds, slices.Equal) || !ok {
			t.Errorf("PredsOf(%s): %v %v, not %v", c.text, got, ok, c.preds)
		}
		if got, numbers, ok := impl.TrimFlow(f); !sameFlow(got, flow(c.trimmed)) || !slices.Equal(numbers, c.numbers) || !ok {
			t.Errorf("TrimFlow(%s): %v %v %v, not %s %v", c.text, got, numbers, ok, c.trimmed, c.numbers)
		}
	}
}

// Promise 6: blocks that are joined, and those that are not, written out.
func TestFlatJoin(t *testing.T) {
	for _, c := range []struct{ text, joined string }{
		{"end", "end"},
		{"trap", "trap"},
		{"out 1, to 1; out 2, end", "out 1, out 2, end"},
		{"out 1, to 1; out 2, trap", "out 1, out 2, trap"},
		{"out 1, to 1; out 2, if 3 2 3; end; trap", "out 1, out 2, if 3 1 2; end; trap"},
		{"out 1, to 1; out 2, table 3 2 3 2; end; trap", "out 1, out 2, table 3 1 2 1; end; trap"},
		// chains of more than two blocks, in any order
		{"out 0, to 1; out 1, to 2; out 2, to 3; out 3, end", "out 0, out 1, out 2, out 3, end"},
		{"out 0, to 3; out 1, end; out 2, to 1; out 3, to 2", "out 0, out 3, out 2, out 1, end"},
		{"if 0 3 1; out 1, to 2; out 2, to 4; out 3, to 5; out 4, trap; out 5, end", "if 0 2 1; out 1, out 2, out 4, trap; out 3, out 5, end"},
		// one that leads to itself
		{"to 0", "to 0"},
		{"out 1, to 1; out 2, to 1", "out 1, to 1; out 2, to 1"},
		{"out 1, to 1; out 2, if 3 1 2; end", "out 1, to 1; out 2, if 3 1 2; end"},
		{"out 1, to 1; out 2, to 2; out 3, to 2", "out 1, out 2, to 1; out 3, to 1"},
		// one that leads to 0
		{"out 1, to 1; out 2, to 0", "out 1, out 2, to 0"},
		{"if 1 1 2; out 2, to 0; end", "if 1 1 2; out 2, to 0; end"},
		{"out 1, to 1; out 2, if 3 0 2; end", "out 1, out 2, if 3 0 1; end"},
		// one that two lead to
		{"if 1 1 2; out 1, to 3; out 2, to 3; out 3, end", "if 1 1 2; out 1, to 3; out 2, to 3; out 3, end"},
		{"if 1 1 2; out 1, to 2; out 2, end", "if 1 1 2; out 1, to 2; out 2, end"},
		{"if 1 1 2; out 1, to 3; out 2, end; out 3, trap", "if 1 1 2; out 1, out 3, trap; out 2, end"},
		// one that leads twice to it, and but one way of those that go several ways
		{"if 1 1 1; out 1, end", "if 1 1 1; out 1, end"},
		{"table 1 1 1; out 1, end", "table 1 1 1; out 1, end"},
		{"out 7, to 1; out 6, if 1 2 2; out 1, end", "out 7, out 6, if 1 1 1; out 1, end"},
		// one that but another one leads to that is not come to
		{"out 1, to 2; to 2; out 2, end", "out 1, out 2, end"},
		{"out 1, to 2; if 3 1 2; out 2, end", "out 1, out 2, end"},
		{"end; out 1, to 2; out 2, end", "end"},
		{"out 1, to 3; out 4, to 2; out 5, to 3; out 2, if 1 0 3; end", "out 1, to 1; out 2, if 1 0 1"},
		// a chain whose last one leads back into it
		{"out 1, to 1; out 2, to 2; out 3, if 1 1 3; end", "out 1, to 1; out 2, out 3, if 1 1 2; end"},
		{"out 1, to 1; out 2, to 2; out 3, if 1 2 3; end", "out 1, out 2, to 1; out 3, if 1 1 2; end"},
	} {
		f := flow(c.text)
		k := kinOf(t, f)
		if got, ok := impl.JoinFlow(f); !sameFlow(got, flow(c.joined)) || !ok {
			t.Errorf("JoinFlow(%s): %v %v, not %s", c.text, got, ok, c.joined)
		}
		for fuel := range 20 {
			checkSameDone(t, k, risingState(), fuel)
		}
	}
}

// chain is blocks with so many flat steps each, told by their names, the first one leading to the next one by these numbers, the last one of which ends.
func chain(sizes []int, order []int) []impl.Block {
	f := make([]impl.Block, len(sizes))
	for i, at := range order {
		f[at] = impl.Block{Code: slices.Repeat([]impl.Flat{{Op: 2, Dst: at, A: at}}, sizes[at]), Go: 3}
		if i+1 < len(order) {
			f[at].Go, f[at].Next = 1, []int{order[i+1]}
		}
	}
	return f
}

// Promise 6: as many as 60 steps together, and one more; what does not fit stays, and what comes behind is joined all the same; the first such is joined first.
func TestFlatJoinSizes(t *testing.T) {
	for _, c := range []struct {
		sizes  []int
		order  []int
		joined []int // how many steps the blocks have then, by their numbers
	}{
		{[]int{60, 0}, []int{0, 1}, []int{60}},
		{[]int{0, 60}, []int{0, 1}, []int{60}},
		{[]int{30, 30}, []int{0, 1}, []int{60}},
		{[]int{30, 31}, []int{0, 1}, []int{30, 31}},
		{[]int{60, 1}, []int{0, 1}, []int{60, 1}},
		{[]int{1, 60}, []int{0, 1}, []int{1, 60}},
		{[]int{60, 60}, []int{0, 1}, []int{60, 60}},
		{[]int{20, 20, 20}, []int{0, 1, 2}, []int{60}},
		{[]int{20, 20, 21}, []int{0, 1, 2}, []int{40, 21}},
		{[]int{20, 20, 21}, []int{0, 2, 1}, []int{41, 20}},
		// behind what does not fit
		{[]int{40, 30, 20, 10}, []int{0, 1, 2, 3}, []int{40, 60}},
		{[]int{60, 1, 1, 1, 1}, []int{0, 1, 2, 3, 4}, []int{60, 4}},
		{[]int{60, 60, 30, 30}, []int{0, 1, 2, 3}, []int{60, 60, 60}},
		// 1 is ahead of 2: 1 takes 3 while 2 can still take 1, which then is too long
		{[]int{60, 20, 30, 20}, []int{0, 2, 1, 3}, []int{60, 40, 30}},
		{[]int{60, 30, 20, 20}, []int{0, 1, 2, 3}, []int{60, 50, 20}},
		{[]int{60, 20, 30, 30}, []int{0, 3, 2, 1}, []int{60, 50, 30}},
	} {
		k := kinOf(t, chain(c.sizes, c.order))
		var sizes []int
		for _, b := range k.joined {
			sizes = append(sizes, len(b.Code))
		}
		if !slices.Equal(sizes, c.joined) {
			t.Errorf("JoinFlow of %v by %v: %v, not %v", c.sizes, c.order, sizes, c.joined)
		}
		checkSameDone(t, k, risingState(), 10)
	}
	long := chain(make([]int, 64), places(64))
	if got, ok := impl.JoinFlow(long); !sameFlow(got, flow("end")) || !ok {
		t.Error(got, ok)
	}
	back := places(64)
	slices.Reverse(back[1:])
	if got, ok := impl.JoinFlow(chain(make([]int, 64), back)); !sameFlow(got, flow("end")) || !ok {
		t.Error(got, ok)
	}
}

// grownFlat is a flat step whose words are mostly small.
func grownFlat(pick func(int) int) impl.Flat {
	x := impl.Flat{Op: []int{1, 1, 2, 2, 3, 3, 3, 4, 5, 6}[pick(10)]}
	fields := fieldsByHand(x.Op)
	for i, field := range fieldsOf(&x) {
		*field = fields[i][0] + pick(fields[i][1]-fields[i][0]+1)
	}
	if x.Op == impl.FxConst && pick(6) > 0 {
		x.N = pick(4)
	}
	if x.Do == impl.WDiv && pick(2) > 0 {
		x.Do = impl.WSub
	}
	return x
}

// grownFlow is a good flow, mostly with few blocks, that go on to near ones.
func grownFlow(pick func(int) int) []impl.Block {
	f := make([]impl.Block, 1+pick(9))
	if pick(20) == 0 {
		f = make([]impl.Block, 50+pick(15))
	}
	for at := range f {
		long := pick(4)
		if pick(8) == 0 {
			long = 15 + pick(46)
		}
		for range long {
			f[at].Code = append(f[at].Code, grownFlat(pick))
		}
		b := &f[at]
		b.Go = []int{1, 1, 1, 1, 1, 2, 2, 3, 4, 5}[pick(10)]
		many := []int{0, 1, 2, 0, 0, 2 + pick(5)}[b.Go]
		for range many {
			b.Next = append(b.Next, pick(len(f)))
			if pick(2) == 0 {
				b.Next[len(b.Next)-1] = (at + 1 + pick(2)) % len(f)
			}
		}
		if many > 1 {
			b.Test = pick(12)
		}
	}
	return f
}

// Promise 6: flows of all kinds from states of all kinds, with many fuels; what is trimmed and joined of them does the same.
func TestFlatMixedFlows(t *testing.T) {
	pick := someSource()
	var hows, goes, lasts [6]int
	var traps [7]int
	gone, taken, tooLong := 0, 0, 0
	for range 6000 {
		f, s := grownFlow(pick), grownState(pick)
		k := kinOf(t, f)
		for _, fuel := range []int{pick(3), 3 + pick(20), 200, impl.MaxFuel} {
			r := checkSameDone(t, k, s, fuel)
			if fuel != 200 {
				continue
			}
			hows[r.how]++
			for _, at := range r.begun {
				goes[f[at].Go]++
			}
			for op, often := range r.traps {
				traps[op] += often
			}
			if last := r.begun[len(r.begun)-1]; r.how != impl.OutFuel {
				lasts[f[last].Go]++
			}
		}
		gone += len(f) - len(k.trimmed)
		taken += len(k.trimmed) - len(k.joined)
		preds := predsByHand(k.joined)
		for _, b := range k.joined {
			if b.Go == 1 && b.Next[0] != 0 && len(preds[b.Next[0]]) == 1 {
				tooLong++
			}
		}
	}
	if slices.Min(hows[1:4]) < 100 || slices.Min(goes[1:]) < 100 || slices.Min(traps[3:]) < 30 || lasts[3] < 100 || lasts[4] < 100 {
		t.Errorf("so few of: %v %v %v %v", hows, goes, traps, lasts)
	}
	if gone < 1000 || taken < 1000 || tooLong < 100 {
		t.Errorf("so few of: %d gone, %d taken, %d too long", gone, taken, tooLong)
	}
}

// Promise 6: all flows of three blocks, with the Gos that lead on and some that do not.
func TestFlatAllSmall(t *testing.T) {
	var all []impl.Block
	for _, text := range strings.Split("end; trap; to 0; to 1; to 2; if 0 0 1; if 0 1 0; if 0 1 2; if 0 2 1; if 0 2 2; if 0 1 1; if 0 0 2; if 0 2 0; table 0 0 1 2; table 0 2 1", ";") {
		all = append(all, flow(text)[0])
	}
	outs := flow("out 1, end; out 2, end; out 3, end")
	for _, a := range all {
		for _, b := range all {
			for _, c := range all {
				f := copyFlow([]impl.Block{a, b, c})
				for i := range f {
					f[i].Code = outs[i].Code
				}
				k := kinOf(t, f)
				checkSameDone(t, k, stateOf(1, 0), 9)
				checkSameDone(t, k, stateOf(0, 0), 9)
			}
		}
	}
}

// Promise 6: a run of a flow with more fuel goes on from where one with less stopped.
func TestFlatMoreFuel(t *testing.T) {
	pick := someSource()
	for range 1000 {
		f, s := grownFlow(pick), grownState(pick)
		less := pick(30)
		more := less + pick(30)
		first, how, begun, _ := impl.RunFlow(f, s, less)
		second, howThen, begunThen, _ := impl.RunFlow(f, s, more)
		if how != impl.OutFuel && (!sameStates(first, second) || how != howThen || begun != begunThen) {
			t.Fatalf("RunFlow(%v, %v): %d and %d: %v %v", f, s, less, more, first, second)
		}
		if told := first.Told; begun > begunThen || len(told) > len(second.Told) || !slices.Equal(told, second.Told[:len(told)]) {
			t.Fatalf("RunFlow(%v, %v): %d and %d: %v %v", f, s, less, more, first, second)
		}
	}
}

// Promise 19: good flows with any one field of a block or of a flat step become anything.
func TestFlatAnything(t *testing.T) {
	pick := someSource()
	some := []int{math.MinInt, -1, 0, 1, 2, 3, 4, 5, 6, 7, 9, 11, 12, 63, 64, 65535, 65536, math.MaxInt}
	wrong := 0
	for range 6000 {
		f := grownFlow(pick)
		b := &f[pick(len(f))]
		fields := []*int{&b.Go, &b.Test}
		for i := range b.Next {
			fields = append(fields, &b.Next[i])
		}
		for i := range b.Code {
			fields = append(append(fields, &b.Code[i].Op), fieldsOf(&b.Code[i])...)
		}
		*fields[pick(len(fields))] = some[pick(len(some))]
		if !goodFlowByHand(f) {
			wrong++
			checkNoFlow(t, f)
			continue
		}
		checkSameDone(t, kinOf(t, f), stateOf(1, 2), 20)
	}
	if wrong < 2000 {
		t.Error("so few are wrong: ", wrong)
	}
}

// Promise 19: nil lists and empty ones are alike.
func TestFlatOfNothing(t *testing.T) {
	var memory [3]impl.Flat
	for _, flat := range [][]impl.Flat{nil, {}, memory[:0]} {
		for _, next := range [][]int{nil, {}, places(3)[:0]} {
			for how := 3; how <= 4; how++ {
				f := []impl.Block{{Code: flat, Go: how, Next: next}}
				checkFlow(t, f)
				checkFlowRun(t, f, stateOf(1, 2), 3)
			}
			for _, how := range []int{1, 2, 5} {
				checkNoFlow(t, []impl.Block{{Code: flat, Go: how, Next: next}})
			}
			s := impl.State{Locals: places(8), Mem: places(16), Told: next}
			checkFlowRun(t, []impl.Block{{Code: flat, Go: 1, Next: []int{1}}, {Code: []impl.Flat{{Op: 6, A: 3}}, Go: 3, Next: next}}, s, 3)
		}
	}
	for _, l := range [][]impl.Step{nil, {}, code("drop")[:0]} {
		if f := checkLift(t, l); !sameFlow(f, flow("end")) {
			t.Error(f)
		}
	}
	for _, table := range [][]int{nil, {}, places(3)[:0]} {
		f := checkLift(t, []impl.Step{{Op: impl.WConst, N: 1, Table: table}, {Op: impl.WOut, Table: table}})
		if !sameFlow(f, flow("const 8 1, out 8, to 1; end")) {
			t.Error(f)
		}
		checkNoLift(t, []impl.Step{{Op: impl.WConst, N: 1}, {Op: impl.WTable, Table: table}})
	}
}

// mixedMemory is memory of a flow whose lists have something behind their lengths, and blocks behind it.
func mixedMemory() ([]impl.Block, []impl.Flat, []int) {
	flats := append(flow("const 8 1, out 8, copy 7 8, store 7 8, div 1 1 7, end")[0].Code, impl.Flat{Op: 99, A: -3}, impl.Flat{Op: 6, A: 12})
	next := []int{1, 2, 3, 0, -5, 77}
	return []impl.Block{
		{Code: flats[:2], Go: 1, Next: next[:1]},
		{Code: flats[:5], Go: 5, Test: 7, Next: next[:3]},
		{Code: flats[1:3], Go: 2, Test: 2, Next: next[2:4]},
		{Code: flats[:0], Go: 3, Next: next[1:1]},
		{Code: flats[4:5], Go: 4, Next: next[:0]},
		{Go: 88, Next: next[4:]},
		{Code: flats},
	}, flats, next
}

// Promise 19: no list that is handed in is changed, nor what lies behind it; and that tells nothing.
func TestFlatListsStay(t *testing.T) {
	memory, flats, next := mixedMemory()
	before, flatsBefore, nextBefore := copyFlow(memory), slices.Clone(flats), slices.Clone(next)
	for many := range len(memory) + 1 {
		checkGood(t, memory[:many])
		checkGood(t, memory[many:])
	}
	k := kinOf(t, memory[:5])
	for fuel := range 10 {
		checkSameDone(t, k, risingState(), fuel)
	}
	checkNoFlow(t, memory)
	checkNoFlow(t, memory[:6])
	if !sameFlow(memory, before) || !slices.Equal(flats, flatsBefore) || !slices.Equal(next, nextBefore) {
		t.Error(memory, flats, next)
	}
	table := []int{0, 1, 99, 98}
	l := code(busy)
	l[2].Table = table[:2]
	steps := append(l, step(99, 98, 97), impl.Step{Op: -5})
	stepsBefore := copySteps(steps)
	if f := checkLift(t, steps[:len(l)]); !slices.Equal(f[0].Next, []int{2, 3, 3}) {
		t.Error(f)
	}
	checkNoLift(t, steps)
	if !sameSteps(steps, stepsBefore) || !slices.Equal(table, []int{0, 1, 99, 98}) {
		t.Error(steps, table)
	}
}

// Promise 19: a state's three lists stay, and what lies behind them; what is told shares no memory with them, nor with each other, nor with another answer.
func TestFlatStatesAreNew(t *testing.T) {
	locals, mem, told := slices.Repeat([]int{-5}, 20), slices.Repeat([]int{-6}, 30), slices.Repeat([]int{-7}, 110)
	copy(locals, places(8))
	copy(mem, places(16))
	copy(told, []int{3, 4, 5})
	before := copyOfState(impl.State{Locals: locals, Mem: mem, Told: told})
	s := impl.State{Locals: locals[:8], Mem: mem[:16], Told: told[:3]}
	want := impl.State{Locals: []int{9, 1, 2, 3, 4, 5, 6, 8}, Mem: places(16), Told: []int{3, 4, 5, 9, 8}}
	want.Mem[0], want.Mem[15] = 9, 8
	f := flow("const 8 0, const 9 15, const 0 9, const 7 8, to 1; store 8 0, store 9 7, out 0, out 7, end")
	ask := func() impl.State {
		got, how, begun, ok := impl.RunFlow(f, s, 2)
		if how != impl.OutEnd || begun != 2 || !ok {
			t.Fatal(how, begun, ok)
		}
		return got
	}
	for which := range 3 {
		first, second := ask(), ask()
		for i, list := range listsOf(&first) {
			if got := (*list)[:cap(*list)][len(*list):]; slices.ContainsFunc(got, func(n int) bool { return n < 0 }) {
				t.Errorf("behind list %d: %v", i, got)
			}
		}
		spoilNumbers(*listsOf(&first)[which])
		for i := range 3 {
			if i != which && !slices.Equal(*listsOf(&first)[i], *listsOf(&want)[i]) {
				t.Error(which, i, first)
			}
		}
		if third := ask(); !sameStates(second, want) || !sameStates(third, want) {
			t.Error(which, second, third)
		}
		if now := (impl.State{Locals: locals, Mem: mem, Told: told}); !sameStates(now, before) {
			t.Fatal(which, now)
		}
	}
	for _, fuel := range []int{0, 1} {
		got, _, _, _ := impl.RunFlow(f, s, fuel)
		for _, list := range listsOf(&got) {
			spoilNumbers(*list)
		}
		if now := (impl.State{Locals: locals, Mem: mem, Told: told}); !sameStates(now, before) {
			t.Fatal(fuel, now)
		}
	}
}

// Promise 19: a state whose lists lie in one memory is run as any other.
func TestFlatSharedState(t *testing.T) {
	memory := slices.Repeat([]int{2}, 30)
	s := impl.State{Locals: memory[:8], Mem: memory[4:20], Told: memory[2:5]}
	checkFlowRun(t, flow("const 7 9, const 8 3, store 8 7, out 7, load 0 8, out 6, end"), s, 3)
	if !slices.Equal(memory, slices.Repeat([]int{2}, 30)) {
		t.Error(memory)
	}
}

// spoilFlats writes over flat steps, and over what lies behind them in their memory.
func spoilFlats(l []impl.Flat) {
	l = l[:cap(l)]
	for i := range l {
		l[i] = impl.Flat{Op: 77, Do: 77, Dst: 77, A: 77, B: 77, N: 77}
	}
}

// checkFlowIsNew spoils each list of a flow that is told, and looks at all its other lists, at other answers, and at what stays.
func checkFlowIsNew(t *testing.T, ask func() []impl.Block, stays func() bool) {
	t.Helper()
	want := copyFlow(ask())
	for at := range want {
		for which := range 2 {
			first, second := ask(), ask()
			for i := range first {
				if got := first[i].Next; slices.ContainsFunc(got[:cap(got)][len(got):], func(n int) bool { return n != 0 }) {
					t.Errorf("behind Next of %d: %v", i, got[:cap(got)])
				}
				if got := first[i].Code; slices.ContainsFunc(got[:cap(got)][len(got):], func(x impl.Flat) bool { return x.Op == 99 }) {
					t.Errorf("behind Code of %d: %v", i, got[:cap(got)])
				}
			}
			expect := copyFlow(want)
			if which == 0 {
				spoilNumbers(first[at].Next)
				expect[at].Next = slices.Repeat([]int{77}, len(want[at].Next))
			} else {
				spoilFlats(first[at].Code)
				expect[at].Code = slices.Repeat([]impl.Flat{{Op: 77, Do: 77, Dst: 77, A: 77, B: 77, N: 77}}, len(want[at].Code))
			}
			if !sameFlow(first, expect) {
				t.Errorf("block %d spoilt: %v, not %v", at, first, expect)
			}
			first = first[:cap(first)]
			for i := range first {
				first[i] = impl.Block{Go: 77}
			}
			if third := ask(); !sameFlow(second, want) || !sameFlow(third, want) || !stays() {
				t.Errorf("%v and %v, not %v", second, third, want)
			}
		}
	}
}

// Promise 19: blocks that are told share no memory with those handed in, even where these share theirs, nor with each other, nor with another answer.
func TestFlatFlowsAreNew(t *testing.T) {
	memory, flats, next := mixedMemory()
	flatsBefore, nextBefore, before := slices.Clone(flats), slices.Clone(next), copyFlow(memory)
	stays := func() bool {
		return sameFlow(memory, before) && slices.Equal(flats, flatsBefore) && slices.Equal(next, nextBefore)
	}
	shared := memory[:5]
	joining := []impl.Block{
		{Code: flats[:2], Go: 1, Next: next[:1]},
		{Code: flats[3:5], Go: 1, Next: next[1:2]},
		{Code: flats[:1], Go: 2, Test: 3, Next: next[2:4]},
		{Code: flats[:5], Go: 5, Test: 1, Next: next[1:4]},
	}
	for _, f := range [][]impl.Block{shared, joining, flow("out 1, to 1; out 2, to 2; out 3, if 1 3 4; to 0; end")} {
		checkFlowIsNew(t, func() []impl.Block { got, _, _ := impl.TrimFlow(f); return got }, stays)
		checkFlowIsNew(t, func() []impl.Block { got, _ := impl.JoinFlow(f); return got }, stays)
	}
	table := []int{0, 1, 99, 98}
	l := joined(code("block, get 0, if, get 1"), []impl.Step{{Op: impl.WTable, N: 1, Table: table[:2]}}, code("else, get 2"), []impl.Step{{Op: impl.WTable, N: 2, Table: table[:2]}}, code("end, end, const 5, out"))
	stepsBefore := copySteps(l)
	checkFlowIsNew(t, func() []impl.Block { got, _ := impl.LiftSteps(l); return got }, func() bool {
		return sameSteps(l, stepsBefore) && slices.Equal(table, []int{0, 1, 99, 98})
	})
}

// Promise 19: the numbers that are told share no memory with a flow, nor with each other, nor with another answer.
func TestFlatNumbersAreNew(t *testing.T) {
	f := flow("table 0 1 2 1 3; to 3; if 1 3 3; if 2 0 4; to 1; to 4")
	before := copyFlow(f)
	for _, ask := range []func() []int{
		func() []int { got, _ := impl.ReachIn(f); return got },
		func() []int { _, got, _ := impl.TrimFlow(f); return got },
	} {
		want := slices.Clone(ask())
		first, second := ask(), ask()
		spoilNumbers(first)
		if third := ask(); !slices.Equal(second, want) || !slices.Equal(third, want) || !sameFlow(f, before) {
			t.Error(second, third, f)
		}
	}
	trimmed, numbers, _ := impl.TrimFlow(f)
	want := copyFlow(trimmed)
	spoilNumbers(numbers)
	if !sameFlow(trimmed, want) {
		t.Error(trimmed)
	}
	preds := predsByHand(f)
	for at := range preds {
		first, _ := impl.PredsOf(f)
		second, _ := impl.PredsOf(f)
		spoilNumbers(first[at])
		for i := range first {
			if i != at && !slices.Equal(first[i], preds[i]) {
				t.Error(at, i, first)
			}
		}
		clear(first[:cap(first)])
		if third, _ := impl.PredsOf(f); !slices.EqualFunc(second, preds, slices.Equal) || !slices.EqualFunc(third, preds, slices.Equal) || !sameFlow(f, before) {
			t.Error(second, third, f)
		}
	}
}
