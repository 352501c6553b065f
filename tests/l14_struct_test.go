package tests

import (
	"math"
	"slices"
	"strconv"
	"strings"
	"testing"

	"loop.example/g00373/impl"
)

// isLow tells whether names are those of locals alone.
func isLow(names ...int) bool { return slices.Max(names) < 8 }

// canByHand tells of any blocks at all whether they are a flow as said.
func canByHand(f []impl.Block) bool {
	if !goodFlowByHand(f) || len(f) > 12 || len(reachByHand(f)) < len(f) {
		return false
	}
	for _, b := range f {
		for _, x := range b.Code {
			if !isLow(x.Dst, x.A, x.B) {
				return false
			}
		}
		if !isLow(b.Test) {
			return false
		}
	}
	return reducibleByHand(graphByHand(f))
}

// flatWords tells a good flat step as words of code.
func flatWords(x impl.Flat) string {
	dst, a, b := strconv.Itoa(x.Dst), strconv.Itoa(x.A), strconv.Itoa(x.B)
	switch x.Op {
	case 1:
		return "const " + strconv.Itoa(x.N) + ", set " + dst
	case 2:
		return "get " + a + ", set " + dst
	case 3:
		return "get " + a + ", get " + b + "," + strings.Fields("add sub mul div less eq")[x.Do-4] + ", set " + dst
	case 4:
		return "get " + a + ", load, set " + dst
	case 5:
		return "get " + a + ", get " + b + ", store"
	}
	return "get " + a + ", out"
}

// flatCodeByHand tells of any flat steps at all the code, and whether there is some.
func flatCodeByHand(l []impl.Flat) ([]impl.Step, bool) {
	if len(l) > 60 {
		return nil, false
	}
	var words []string
	for _, x := range l {
		if !goodFlatByHand(x) || !isLow(x.Dst, x.A, x.B) {
			return nil, false
		}
		words = append(words, flatWords(x))
	}
	return code(strings.Join(words, ",")), true
}

// spelt is a piece of code that is told by hand: a block that is still to be told, or a step, whose block is -1.
type spelt struct {
	block int
	step  impl.Step
	opens int   // the block to which a jump out of what it opens comes; below -1: none
	goes  []int // the blocks to which it jumps; -1: out of all
	own   int   // the block for which it is told; -1: for a way from one to another
}

// between is a step that is told for no block.
func between(op int) spelt {
	return spelt{block: -1, step: impl.Step{Op: op}, opens: -2, own: -1}
}

// outByHand counts how many lie around a place up to the one out of which a jump comes to a block.
func outByHand(l []spelt, at int, to int) int {
	out, closed := 0, 0
	for i := at - 1; i >= 0; i-- {
		switch {
		case l[i].step.Op == impl.WEnd:
			closed++
		case !opensByHand(l[i].step):
		case closed > 0:
			closed--
		case l[i].opens == to:
			return out
		default:
			out++
		}
	}
	return out
}

// handStruct is a flow as said, and what is worked out of it by hand.
type handStruct struct {
	f      []impl.Block
	below  [][]int
	back   [][]int // the back edges
	merges []bool
	heads  []bool
}

func structByHand(f []impl.Block) *handStruct {
	g := graphByHand(f)
	h := &handStruct{f: f, below: make([][]int, len(f)), back: backEdgesByHand(g), merges: make([]bool, len(f)), heads: make([]bool, len(f))}
	dominators := dominatorsByHand(g)
	for _, at := range orderByHand(g, 0, make([]bool, len(f))) {
		for _, up := range dominators[at] {
			others := slices.DeleteFunc(slices.Clone(dominators[at]), func(other int) bool { return other == at })
			if up != at && hasAllByHand(dominators[up], others) {
				h.below[up] = append(h.below[up], at)
			}
		}
	}
	ahead := make([]int, len(f))
	for from, b := range f {
		for _, to := range b.Next {
			if h.isBack(from, to) {
				h.heads[to] = true
			} else {
				ahead[to]++
			}
			h.merges[to] = h.merges[to] || b.Go == 5
		}
	}
	for at := range f {
		h.merges[at] = h.merges[at] || ahead[at] >= 2
	}
	return h
}

func (h *handStruct) isBack(from int, to int) bool {
	return slices.ContainsFunc(h.back, func(e []int) bool { return e[0] == from && e[1] == to })
}

// way tells the piece by which a block goes on to another one.
func (h *handStruct) way(from int, to int) spelt {
	if !h.merges[to] && !h.isBack(from, to) {
		return spelt{block: to}
	}
	x := between(impl.WBr)
	x.goes = []int{to}
	return x
}

// goesOn tells the pieces behind the Code of a block.
func (h *handStruct) goesOn(at int) []spelt {
	b := h.f[at]
	own := func(op int, n int, goes ...int) spelt {
		return spelt{block: -1, step: impl.Step{Op: op, N: n}, opens: -2, goes: goes, own: at}
	}
	switch b.Go {
	case 1:
		return []spelt{h.way(at, b.Next[0])}
	case 2:
		return []spelt{own(impl.WGet, b.Test), own(impl.WIf, 0), h.way(at, b.Next[0]), between(impl.WElse), h.way(at, b.Next[1]), between(impl.WEnd)}
	case 3:
		return []spelt{own(impl.WBr, 0, -1)}
	case 4:
		return []spelt{own(impl.WTrap, 0)}
	}
	return []spelt{own(impl.WGet, b.Test), own(impl.WTable, 0, b.Next...)}
}

// pieces tells the pieces of a block, some of which are blocks again.
func (h *handStruct) pieces(at int) []spelt {
	var ahead, behind []spelt
	for _, to := range h.below[at] {
		if h.merges[to] {
			open := between(impl.WBlock)
			open.opens = to
			ahead = append([]spelt{open}, ahead...)
			behind = append(behind, between(impl.WEnd), spelt{block: to})
		}
	}
	if h.heads[at] {
		open := between(impl.WLoop)
		open.opens = at
		ahead = append([]spelt{open}, ahead...)
		behind = append(behind, between(impl.WEnd))
	}
	l, _ := flatCodeByHand(h.f[at].Code)
	for _, x := range l {
		ahead = append(ahead, spelt{block: -1, step: x, opens: -2, own: at})
	}
	return slices.Concat(ahead, h.goesOn(at), behind)
}

// spell tells all code, block after block taken to pieces, and then how far the jumps go.
func (h *handStruct) spell() []spelt {
	var out []spelt
	for left := []spelt{{block: 0}}; len(left) > 0; {
		x := left[0]
		if x.block >= 0 {
			left = slices.Concat(h.pieces(x.block), left[1:])
			continue
		}
		out, left = append(out, x), left[1:]
	}
	for at := range out {
		x := &out[at]
		for i, to := range x.goes {
			far := outByHand(out, at, to)
			if i == len(x.goes)-1 {
				x.step.N = far
			} else {
				x.step.Table = append(x.step.Table, far)
			}
		}
	}
	return out
}

// restored is a flow as said, and what is told of it.
type restored struct {
	*handStruct
	all  []spelt     // all code, however long and deep it is
	l    []impl.Step // the same, where it is good
	deep int
	why  string // why it is not good; nothing, where it is
}

func restoredByHand(f []impl.Block) restored {
	x := restored{handStruct: structByHand(f)}
	x.all = x.spell()
	tables := 0
	for at, p := range x.all {
		x.l = append(x.l, p.step)
		x.deep = max(x.deep, outByHand(x.all, at, -1)) // something stands in all that is opened
		tables = max(tables, len(p.step.Table))
	}
	switch {
	case tables > 4:
		x.why = "table"
	case x.deep > 8:
		x.why = "deep"
	case len(x.l) > 60:
		x.why = "long"
	}
	if x.why != "" {
		x.l = nil
	}
	return x
}

// farOff tells numbers that are no block of a flow.
func farOff(many int) []int {
	return []int{math.MinInt, -1 << 32, -many, -1, many, many + 1, 64, 1 << 32, math.MaxInt - 1, math.MaxInt}
}

// checkMerges asks of each number whether it is a merge.
func checkMerges(t *testing.T, h *handStruct) {
	t.Helper()
	for k, want := range h.merges {
		if is, ok := impl.IsMerge(h.f, k); is != want || !ok {
			t.Fatalf("IsMerge(%v, %d): %v %v, not %v", h.f, k, is, ok, want)
		}
	}
	for _, k := range farOff(len(h.f)) {
		if is, ok := impl.IsMerge(h.f, k); is || ok {
			t.Fatalf("IsMerge(%v, %d): %v %v", h.f, k, is, ok)
		}
	}
}

// checkStruct holds all that is told of a flow as said against what is worked out by hand; and the first half of promise 14.
func checkStruct(t *testing.T, f []impl.Block) restored {
	t.Helper()
	before, x := copyFlow(f), restoredByHand(f)
	if can, ok := impl.CanStruct(f); !can || !ok {
		t.Fatalf("CanStruct(%v): %v %v", f, can, ok)
	}
	if got, ok := impl.DomTree(f); !sameLists(got, x.below) || !ok {
		t.Fatalf("DomTree(%v): %v %v, not %v", f, got, ok, x.below)
	}
	checkMerges(t, x.handStruct)
	got, ok := impl.StructOf(f)
	if !sameSteps(got, x.l) || ok != (x.why == "") {
		t.Fatalf("StructOf(%v): %v %v, not %v (%s)", f, got, ok, x.l, x.why)
	}
	if n, ok := impl.LengthOf(f); n != len(x.l) || ok != (x.why == "") {
		t.Fatalf("LengthOf(%v): %d %v, not %d (%s)", f, n, ok, len(x.l), x.why)
	}
	if ok && !goodCodeByHand(got) {
		t.Fatalf("StructOf(%v): %v is not good", f, got)
	}
	if code, at, valid := impl.ValidSteps(got); ok && (code != 0 || at != 0 || !valid) {
		t.Fatalf("StructOf(%v): %v is not valid: %d at %d", f, got, code, at)
	}
	if !sameFlow(f, before) {
		t.Fatalf("%v was %v", f, before)
	}
	return x
}

// ownPlaces tells for each block the places of the steps that are told for it.
func (x restored) ownPlaces() [][]int {
	out := make([][]int, len(x.f))
	for at, p := range x.all {
		if p.own >= 0 {
			out[p.own] = append(out[p.own], at)
		}
	}
	return out
}

// checkBegun holds the steps done against the blocks begun: each block does its own, one after the other; where one trapped, or fuel did not suffice, the others are ahead.
func (x restored) checkBegun(t *testing.T, begun []int, done []int, both bool) {
	t.Helper()
	var own, want []int
	for _, at := range done {
		if x.all[at].own >= 0 {
			own = append(own, at)
		}
	}
	places := x.ownPlaces()
	for _, at := range begun {
		want = append(want, places[at]...)
	}
	if both && len(own) != len(want) {
		t.Fatalf("%v as %v: of %v %v are done, not %v", x.f, x.l, done, own, want)
	}
	many := min(len(own), len(want))
	if !slices.Equal(own[:many], want[:many]) {
		t.Fatalf("%v as %v: of %v %v are done, not %v", x.f, x.l, done, own, want)
	}
}

// checkRun is the second half of promise 14: runs of blocks and of code, with any fuels; it tells how both end, and nothing where one of them does not.
func (x restored) checkRun(t *testing.T, state impl.State, blockFuel int, stepFuel int) int {
	t.Helper()
	if x.why != "" {
		return 0
	}
	r := checkFlowRun(t, x.f, state, blockFuel)
	got, how, _, ok := impl.RunSteps(x.l, state, stepFuel)
	done, _ := impl.StepsDone(x.l, state, stepFuel)
	if !ok {
		t.Fatalf("RunSteps(%v, %v, %d): %v", x.l, state, stepFuel, ok)
	}
	x.checkBegun(t, r.begun, done, how == 1 && r.how == 1)
	if how == 3 || r.how == 3 {
		return 0
	}
	if how != r.how || !sameStates(got, r.s) {
		t.Fatalf("%v as %v, of %v: %d and %v, not %d and %v", x.f, x.l, state, how, got, r.how, r.s)
	}
	return how
}

// checkNoStruct looks for the answers of blocks that are no flow as said.
func checkNoStruct(t *testing.T, f []impl.Block) {
	t.Helper()
	before, good := copyFlow(f), goodFlowByHand(f)
	if can, ok := impl.CanStruct(f); can || ok != good {
		t.Errorf("CanStruct(%v): %v %v", f, can, ok)
	}
	if got, ok := impl.DomTree(f); len(got) != 0 || ok {
		t.Errorf("DomTree(%v): %v %v", f, got, ok)
	}
	if got, ok := impl.StructOf(f); len(got) != 0 || ok {
		t.Errorf("StructOf(%v): %v %v", f, got, ok)
	}
	if n, ok := impl.LengthOf(f); n != 0 || ok {
		t.Errorf("LengthOf(%v): %d %v", f, n, ok)
	}
	for _, k := range append(farOff(len(f)), 0, 1, 2, len(f)-1) {
		if is, ok := impl.IsMerge(f, k); is || ok {
			t.Errorf("IsMerge(%v, %d): %v %v", f, k, is, ok)
		}
	}
	if !sameFlow(f, before) {
		t.Errorf("%v was %v", f, before)
	}
}

// checkAnyStruct takes any blocks at all; it tells whether they are a flow as said.
func checkAnyStruct(t *testing.T, f []impl.Block) (restored, bool) {
	t.Helper()
	if !canByHand(f) {
		checkNoStruct(t, f)
		return restored{}, false
	}
	return checkStruct(t, f), true
}

// checkFlats holds the code of any flat steps at all against what is told by hand; what can be run does what they do.
func checkFlats(t *testing.T, l []impl.Flat) ([]impl.Step, bool) {
	t.Helper()
	before := slices.Clone(l)
	got, ok := impl.FlatSteps(l)
	if want, is := flatCodeByHand(l); !sameSteps(got, want) || ok != is {
		t.Fatalf("FlatSteps(%v): %v %v, not %v %v", l, got, ok, want, is)
	}
	if !slices.Equal(l, before) {
		t.Fatalf("%v was %v", l, before)
	}
	if !ok || len(got) > 60 {
		return got, ok
	}
	for _, state := range []impl.State{risingState(), fullState(), stateOf(0, 0)} {
		want, wantHow, _, _ := impl.RunFlow([]impl.Block{{Code: l, Go: impl.GoEnd}}, state, 1)
		if now, how, _, ok := impl.RunSteps(got, state, 60); !ok || how != wantHow || !sameStates(now, want) {
			t.Fatalf("%v as %v, of %v: %v %d %v, not %v %d", l, got, state, now, how, ok, want, wantHow)
		}
	}
	return got, ok
}

// structCase is a flow, and its code; "-", where there is none.
type structCase struct{ flow, code string }

// checkStructs runs each flow of a table, and its code.
func checkStructs(t *testing.T, cases []structCase) {
	t.Helper()
	for _, c := range cases {
		f := flow(c.flow)
		x := checkStruct(t, f)
		got, ok := impl.StructOf(f)
		if c.code == "-" {
			if ok || len(got) != 0 {
				t.Errorf("StructOf(%s): %v", c.flow, got)
			}
			continue
		}
		if !ok || !sameSteps(got, code(c.code)) {
			t.Errorf("StructOf(%s): %v %v, not %s", c.flow, got, ok, c.code)
		}
		for a := range 4 {
			for b := range 4 {
				x.checkRun(t, stateOf(a, b), 40, 300)
			}
		}
		x.checkRun(t, risingState(), 40, 300)
		x.checkRun(t, fullState(), 40, 300)
	}
}

// Promise 14: each way that a block may end; ways to blocks that are no merges.
func TestStructWays(t *testing.T) {
	checkStructs(t, []structCase{
		{"end", "br 0"},
		{"trap", "trap"},
		{"out 1, end", "get 1, out, br 0"},
		{"const 7 65535, copy 0 7, div 1 2 3, load 4 5, store 6 7, out 0, trap", "const 65535, set 7, get 7, set 0, get 2, get 3, div, set 1, get 5, load, set 4, get 6, get 7, store, get 0, out, trap"},
		{"to 1; end", "br 0"},
		{"to 2; trap; out 3, to 1", "get 3, out, trap"},
		{"out 0, to 1; out 1, to 2; out 2, trap", "get 0, out, get 1, out, get 2, out, trap"},
		{"if 3 1 2; end; trap", "get 3, if, br 1, else, trap, end"},
		{"if 3 2 1; end; trap", "get 3, if, trap, else, br 1, end"},
		{"if 0 1 2; out 1, end; out 2, end", "get 0, if, get 1, out, br 1, else, get 2, out, br 1, end"},
		{"if 7 1 2; if 6 3 4; if 5 5 6; end; trap; out 1, end; out 2, trap", "get 7, if, get 6, if, br 2, else, trap, end, else, get 5, if, get 1, out, br 2, else, get 2, out, trap, end, end"},
		{"if 0 1 2; trap; to 3; to 4; if 1 5 6; end; trap", "get 0, if, trap, else, get 1, if, br 2, else, trap, end, end"},
		// both ways to one block: that is a merge
		{"if 3 1 1; end", "block, get 3, if, br 1, else, br 1, end, end, br 0"},
		{"out 3, if 3 1 1; out 2, trap", "block, get 3, out, get 3, if, br 1, else, br 1, end, end, get 2, out, trap"},
		// the greatest name that is tested
		{"if 7 1 1; trap", "block, get 7, if, br 1, else, br 1, end, end, trap"},
	})
}

// Promise 14: tables, which lead to merges alone, and their last Next.
func TestStructTables(t *testing.T) {
	checkStructs(t, []structCase{
		// the one that is later in the order lies outermost, and the numbers in Next have nothing to do with it
		{"table 2 1 2; end; trap", "block, block, get 2, table 1 0, end, trap, end, br 0"},
		{"table 2 2 1; end; trap", "block, block, get 2, table 0 1, end, trap, end, br 0"},
		{"table 0 1 2 3; end; trap; out 0, end", "block, block, block, get 0, table 2 1 0, end, get 0, out, br 2, end, trap, end, br 0"},
		{"table 0 3 1 2; end; trap; out 0, end", "block, block, block, get 0, table 0 2 1, end, get 0, out, br 2, end, trap, end, br 0"},
		{"table 7 1 2 3; to 2; to 3; out 0, end", "block, block, block, get 7, table 0 1 2, end, br 0, end, br 0, end, get 0, out, br 0"},
		{"table 1 1 2 3; to 3; to 1; end", "block, block, block, get 1, table 1 0 2, end, br 0, end, br 0, end, br 0"},
		// all Next alike; but the last one; but one of the others
		{"table 2 1 1; end", "block, get 2, table 0 0, end, br 0"},
		{"table 2 1 1 1 1; end", "block, get 2, table 0 0 0 0, end, br 0"},
		{"table 2 1 1 2; end; trap", "block, block, get 2, table 1 1 0, end, trap, end, br 0"},
		{"table 2 2 2 1; end; trap", "block, block, get 2, table 0 0 1, end, trap, end, br 0"},
		{"table 2 1 2 1; end; trap", "block, block, get 2, table 1 0 1, end, trap, end, br 0"},
		// as many Next as code can have, and one more
		{"table 2 1 1 1 1 1; end", "block, get 2, table 0 0 0 0 0, end, br 0"},
		{"table 2 1 2 3 4 5; end; trap; end; trap; end", "block, block, block, block, block, get 2, table 4 3 2 1 0, end, br 4, end, trap, end, br 2, end, trap, end, br 0"},
		{"table 2 1 1 1 1 1 1; end", "-"},
		{"table 2 1 2 1 2 1 2; end; trap", "-"},
		{"if 0 1 2; end; table 0 3 3 3 3 3 3; end", "-"},
		// back edges of tables: the head is a merge, too, where one comes to it
		{"table 2 0 0", "loop, get 2, table 0 0, end"},
		{"table 2 0 1; end", "loop, block, get 2, table 1 0, end, br 1, end"},
		{"table 2 1 0; end", "loop, block, get 2, table 0 1, end, br 1, end"},
		{"to 1; table 2 1 2; end", "block, br 0, end, loop, block, get 2, table 1 0, end, br 1, end"},
		{"to 1; to 2; table 0 1 2 0", "loop, block, br 0, end, loop, block, br 0, end, loop, get 0, table 1 0 2, end, end, end"},
		// from a table within a choice out of it, and on
		{"if 0 1 2; table 1 2 3; to 3; out 0, end", "block, block, get 0, if, get 1, table 1 2, else, br 1, end, end, br 0, end, get 0, out, br 0"},
		{"if 0 1 2; table 1 3 4; trap; out 3, end; out 4, end", "get 0, if, block, block, get 1, table 1 0, end, get 4, out, br 2, end, get 3, out, br 1, else, trap, end"},
	})
}

// Promise 14: loops, loops within loops, and loops whose heads are merges.
func TestStructLoops(t *testing.T) {
	checkStructs(t, []structCase{
		{"to 0", "loop, br 0, end"},
		{"out 0, to 0", "loop, get 0, out, br 0, end"},
		{"if 3 0 0", "loop, get 3, if, br 1, else, br 1, end, end"},
		{"if 3 0 1; end", "loop, get 3, if, br 1, else, br 2, end, end"},
		{"if 3 1 0; end", "loop, get 3, if, br 2, else, br 1, end, end"},
		{"out 0, sub 0 0 1, if 0 0 1; end", "loop, get 0, out, get 0, get 1, sub, set 0, get 0, if, br 1, else, br 2, end, end"},
		{"to 1; if 2 1 2; end", "loop, get 2, if, br 1, else, br 2, end, end"},
		{"out 5, to 1; out 6, to 1", "get 5, out, loop, get 6, out, br 0, end"},
		{"to 1; if 0 2 3; sub 0 0 1, to 1; end", "loop, get 0, if, get 0, get 1, sub, set 0, br 1, else, br 2, end, end"},
		{"to 2; sub 0 0 1, to 2; if 0 1 3; end", "loop, get 0, if, get 0, get 1, sub, set 0, br 1, else, br 2, end, end"},
		// two ways back, and a way back to the first block
		{"if 0 1 2; to 0; to 0", "loop, get 0, if, br 1, else, br 1, end, end"},
		{"if 0 1 3; if 1 0 2; to 0; trap", "loop, get 0, if, get 1, if, br 2, else, br 2, end, else, trap, end, end"},
		// a loop within a loop, left to the outer one, and out of both
		{"to 1; to 2; if 1 2 3; if 0 1 4; end", "loop, loop, get 1, if, br 1, else, get 0, if, br 3, else, br 4, end, end, end, end"},
		{"to 1; if 0 2 4; if 1 2 3; to 1; end", "loop, get 0, if, loop, get 1, if, br 1, else, br 3, end, end, else, br 2, end, end"},
		{"to 1; to 2; to 3; if 0 3 4; if 1 2 5; if 2 1 6; trap", "loop, loop, loop, get 0, if, br 1, else, get 1, if, br 3, else, get 2, if, br 5, else, trap, end, end, end, end, end, end"},
		// two loops, one behind the other
		{"if 0 0 1; if 1 1 2; end", "loop, get 0, if, br 1, else, loop, get 1, if, br 1, else, br 4, end, end, end, end"},
		// a head that is a merge
		{"if 2 1 2; to 2; if 3 2 3; end", "block, get 2, if, br 1, else, br 1, end, end, loop, get 3, if, br 1, else, br 2, end, end"},
		{"if 2 1 1; if 3 1 2; end", "block, get 2, if, br 1, else, br 1, end, end, loop, get 3, if, br 1, else, br 2, end, end"},
		{"if 2 1 2; to 2; if 3 2 3; if 4 0 3", "loop, block, get 2, if, br 1, else, br 1, end, end, loop, get 3, if, br 1, else, loop, get 4, if, br 4, else, br 1, end, end, end, end, end"},
	})
}

// Promise 14: merges, within loops, outside of them and reached from within; several below one block.
func TestStructMerges(t *testing.T) {
	checkStructs(t, []structCase{
		{"if 2 1 2; to 3; to 3; end", "block, get 2, if, br 1, else, br 1, end, end, br 0"},
		{"if 2 1 2; to 2; end", "block, get 2, if, br 1, else, br 1, end, end, br 0"},
		{"if 2 2 1; to 2; end", "block, get 2, if, br 1, else, br 1, end, end, br 0"},
		{"const 1 5, if 0 1 2; out 1, to 3; const 1 6, to 3; out 1, trap", "block, const 5, set 1, get 0, if, get 1, out, br 1, else, const 6, set 1, br 1, end, end, get 1, out, trap"},
		// within a loop
		{"to 1; if 0 2 3; to 4; to 4; if 1 1 5; end", "loop, block, get 0, if, br 1, else, br 1, end, end, get 1, if, br 1, else, br 2, end, end"},
		{"out 7, if 0 1 2; to 3; to 3; out 6, to 0", "loop, block, get 7, out, get 0, if, br 1, else, br 1, end, end, get 6, out, br 0, end"},
		// below the head, for it is the nearest dominator, so within the loop though it is no part of that
		{"to 1; if 0 2 3; if 1 1 3; end", "loop, block, get 0, if, get 1, if, br 3, else, br 2, end, else, br 1, end, end, br 1, end"},
		// outside of the loop, reached from within
		{"if 5 1 3; if 0 2 3; if 1 1 3; end", "block, get 5, if, loop, get 0, if, get 1, if, br 2, else, br 4, end, else, br 3, end, end, else, br 1, end, end, br 0"},
		// several below one block, by the order
		{"if 0 1 2; if 1 2 3; to 3; end", "block, block, get 0, if, get 1, if, br 2, else, br 3, end, else, br 1, end, end, br 0, end, br 0"},
		{"if 0 1 3; if 1 3 2; end; to 2", "block, block, get 0, if, get 1, if, br 2, else, br 3, end, else, br 1, end, end, br 0, end, br 0"},
		{"table 0 1 2 3; end; trap; to 0", "loop, block, block, block, get 0, table 2 1 0, end, br 2, end, trap, end, br 1, end"},
		{"if 0 1 2; if 1 3 4; if 2 3 4; out 3, end; out 4, end", "block, block, get 0, if, get 1, if, br 3, else, br 2, end, else, get 2, if, br 3, else, br 2, end, end, end, get 4, out, br 1, end, get 3, out, br 0"},
		// one below another one
		{"if 0 1 1; if 1 2 2; end", "block, get 0, if, br 1, else, br 1, end, end, block, get 1, if, br 1, else, br 1, end, end, br 0"},
		{"if 0 1 4; if 1 2 3; to 3; to 4; end", "block, get 0, if, block, get 1, if, br 1, else, br 1, end, end, br 1, else, br 1, end, end, br 0"},
		// a way to a block that is no merge, below one that is
		{"if 0 1 1; to 2; out 2, to 3; out 3, end", "block, get 0, if, br 1, else, br 1, end, end, get 2, out, get 3, out, br 0"},
	})
}

// Promise 14: as many steps as code may have, and more; those of Code alone, and those around it.
func TestStructLong(t *testing.T) {
	outs := func(many int) string { return strings.Repeat("out 0, ", many) }
	for _, c := range []struct {
		flow string
		many int // 0: too many
	}{
		{outs(29) + "end", 59}, {outs(28) + "store 0 1, end", 60}, {outs(27) + "store 0 1, store 0 1, trap", 0}, {outs(30) + "end", 0}, {outs(60) + "end", 0},
		{outs(14) + "to 1; " + outs(14) + "store 0 1, trap", 60}, {outs(14) + "to 1; " + outs(15) + "store 0 1, trap", 0},
		{outs(28) + "store 0 1, to 1; trap", 60}, {outs(29) + "store 0 1, to 1; trap", 0},
		{outs(27) + "store 0 1, to 0", 60}, {outs(30) + "to 0", 0}, {outs(28) + "to 0", 59}, {outs(29) + "to 0", 0},
		{outs(24) + "store 0 1, if 0 1 1; end", 60}, {outs(26) + "if 0 1 1; end", 0},
		{outs(26) + "store 0 1, if 0 1 2; end; trap", 0}, {outs(27) + "if 0 1 2; end; trap", 60},
		{outs(28) + "table 0 0 0", 60}, {outs(29) + "table 0 0 0", 0},
		// parts that are as long as they can be
		{outs(1) + "add 1 1 1, if 0 1 2; " + outs(12) + "end; " + outs(12) + "end", 60}, {outs(1) + "add 1 1 1, if 0 1 2; " + outs(12) + "end; " + outs(13) + "end", 0}, {outs(1) + "add 1 1 1, if 0 1 2; " + outs(13) + "end; " + outs(12) + "end", 0},
	} {
		f := flow(c.flow)
		x := checkStruct(t, f)
		if n, ok := impl.LengthOf(f); n != c.many || ok != (c.many > 0) || x.why != []string{"", "long"}[len(x.why)/4] {
			t.Errorf("LengthOf(%s): %d %v, not %d", c.flow, n, ok, c.many)
		}
		x.checkRun(t, risingState(), 40, 300)
	}
	// as many steps as a flow may have
	full := slices.Repeat([]impl.Block{{Code: slices.Repeat(flow("add 1 2 3, end")[0].Code, 60), Go: impl.GoTo}}, 12)
	for at := range full {
		full[at].Next = []int{(at + 1) % 12}
	}
	if x := checkStruct(t, full); x.why != "long" || len(x.all) != 12*60*4+3 {
		t.Error(x.why, len(x.all))
	}
}

// loopsAndChoices is so many loops one in the other, and within all of them so many choices, each of which leads to a head, or on.
func loopsAndChoices(loops int, choices int) []impl.Block {
	var f []impl.Block
	for at := range loops {
		f = append(f, impl.Block{Go: impl.GoTo, Next: []int{at + 1}})
	}
	for i := range choices {
		f = append(f, impl.Block{Go: impl.GoIf, Next: []int{max(0, loops-1-i), len(f) + 1}})
	}
	return append(f, impl.Block{Go: impl.GoTo, Next: []int{max(0, loops-1-choices)}})
}

// Promise 14: eight deep, and deeper: loops, choices, blocks ahead of merges; jumps out of all of them.
func TestStructDeep(t *testing.T) {
	row := func(choices int) []impl.Block {
		var f []impl.Block
		for at := range choices {
			f = append(f, impl.Block{Code: flow("out 0, end")[0].Code, Go: impl.GoIf, Test: at % 8, Next: []int{0, at + 1}})
		}
		return append(f, impl.Block{Go: impl.GoEnd})
	}
	for choices := 1; choices <= 11; choices++ {
		x := checkStruct(t, row(choices))
		if n, ok := impl.LengthOf(x.f); ok != (choices <= 7) || ok && n != 7*choices+3 || x.deep != choices+1 {
			t.Error(choices, n, ok, x.why)
		}
		if can, ok := impl.CanStruct(x.f); !can || !ok {
			t.Error(choices, can, ok)
		}
		x.checkRun(t, stateOf(0, 0), 100, 500)
	}
	for loops := 1; loops <= 6; loops++ {
		for choices := loops - 1; loops+choices <= 11; choices++ {
			x := checkStruct(t, loopsAndChoices(loops, choices))
			if ok := loops+choices <= 8 && 2*loops+5*choices+1 <= 60; ok != (x.why == "") || x.deep != loops+choices {
				t.Error(loops, choices, x.why, x.deep)
			}
			x.checkRun(t, risingState(), 100, 500)
		}
	}
	checkStructs(t, []structCase{
		// a block ahead of a merge, and a choice, four times: eight
		{"if 0 1 5; if 0 2 6; if 0 3 7; if 0 4 8; to 8; end; to 5; to 6; to 7", "block, get 0, if, block, get 0, if, block, get 0, if, block, get 0, if, br 1, else, br 1, end, end, br 1, else, br 1, end, end, br 1, else, br 1, end, end, br 1, else, br 1, end, end, br 0"},
		// and a loop around them
		{"if 0 1 5; if 0 2 6; if 0 3 7; if 0 4 8; to 8; to 0; to 5; to 6; to 7", "-"},
		// blocks alone, out of which a table leads
		{"if 0 1 6; if 0 2 6; if 0 3 6; table 0 4 5 6 6; to 5; to 6; end", "block, get 0, if, get 0, if, get 0, if, block, block, get 0, table 0 1 5 5, end, br 0, end, br 3, else, br 3, end, else, br 2, end, else, br 1, end, end, br 0"},
	})
	// eight open, and a jump out of all
	x := checkStruct(t, flow("if 0 0 1; if 0 0 2; if 0 0 3; if 0 0 4; if 0 0 5; if 0 0 6; if 0 7 0; end"))
	if !slices.ContainsFunc(x.l, func(s impl.Step) bool { return s.Op == impl.WBr && s.N == 8 }) {
		t.Error(x.l)
	}
}

// Promise 14: the tree of nearest dominators: a chain, ways that meet, loops, and blocks by their places in the order.
func TestStructTree(t *testing.T) {
	for _, c := range []struct{ flow, below, merges string }{
		{"end", "", ""}, {"trap", "", ""}, {"to 0", "", ""}, {"if 1 0 0", "", ""},
		{"table 1 0 0", "", "0"},
		// chains
		{"to 1; end", "1;", ""}, {"to 1; to 2; to 3; end", "1; 2; 3;", ""}, {"to 3; end; to 1; to 2", "3;; 1; 2", ""},
		// two ways that meet, and two that do not; the order is the other way round than the numbers
		{"if 0 1 2; to 3; to 3; end", "2 1 3;;;", "3"}, {"if 0 2 1; to 3; to 3; end", "2 1 3;;;", "3"},
		{"if 0 3 2; end; to 1; to 1", "3 2 1;;;", "1"}, {"if 0 1 2; end; trap", "2 1;;", ""}, {"if 0 2 1; end; trap", "2 1;;", ""},
		{"if 0 1 3; to 2; end; to 2", "3 1 2;;;", "2"}, {"if 0 1 2; to 2; end", "1 2;;", "2"}, {"if 0 1 2; end; to 1", "2 1;;", "1"},
		{"if 0 1 2; if 0 3 4; to 5; to 5; to 5; end", "2 1 5; 4 3;;;;", "5"},
		{"if 0 1 2; if 0 3 4; to 5; to 6; to 6; end; to 5", "2 1 5; 4 3 6;;;;;", "5 6"},
		// loops
		{"to 1; if 0 1 2; end", "1; 2;", ""}, {"to 1; to 2; if 1 2 3; if 0 1 4; end", "1; 2; 3; 4;", ""},
		{"to 1; if 0 2 4; if 1 2 3; to 1; end", "1; 4 2; 3;;", ""}, {"to 1; if 0 4 2; if 1 3 4; to 1; end", "1; 2 4; 3;;", "4"},
		{"if 0 1 2; if 0 1 3; if 0 2 3; if 0 0 4; end", "2 1 3;;; 4;", "3"},
		// edges to one block: none, one, two that are no back edges; and a back edge besides
		{"if 0 1 1; end", "1;", "1"}, {"if 0 0 1; if 0 0 1", "1;", ""}, {"if 0 1 2; if 0 1 2; if 1 1 2", "-", ""}, {"if 0 1 1; to 1", "1;", "1"},
		{"if 0 1 2; to 2; to 2", "1 2;;", "2"}, {"if 0 1 2; to 2; if 0 0 2", "1 2;;", "2"}, {"if 0 0 0", "", ""}, {"if 0 1 0; if 0 1 0", "1;", ""},
		{"to 1; if 0 2 1; to 1", "1; 2;", ""}, {"to 1; if 0 2 2; if 0 1 1", "1; 2;", "2"},
		// tables: once, twice, and by a back edge
		{"table 0 1 2; end; end", "2 1;;", "1 2"}, {"table 0 1 1; end", "1;", "1"}, {"table 0 1 1 2; end; end", "2 1;;", "1 2"}, {"table 0 0 1; end", "1;", "0 1"},
		{"to 1; table 0 1 2; end", "1; 2;", "1 2"}, {"to 1; to 2; table 0 0 0", "1; 2;", "0"}, {"to 1; to 2; table 0 1 1", "1; 2;", "1"},
		{"if 0 1 2; table 0 3 4; if 0 3 4; end; trap", "2 1 4 3;;;;", "3 4"}, {"if 0 1 2; table 0 3 4; to 3; end; trap", "2 1 3; 4;;;", "3 4"},
		// as many blocks as there can be
		{"if 0 1 2; if 0 3 4; if 0 5 6; if 0 7 8; if 0 9 10; if 0 11 7; to 11; to 8; to 9; to 10; to 11; end", "2 1 7 8 9 10 11; 4 3; 6 5;;;;;;;;;", "7 8 9 10 11"},
	} {
		f := flow(c.flow)
		if c.below == "-" {
			checkNoStruct(t, f)
			continue
		}
		checkStruct(t, f)
		if got, ok := impl.DomTree(f); !ok || !sameLists(got, lists(c.below)) {
			t.Errorf("DomTree(%s): %v %v, not %s", c.flow, got, ok, c.below)
		}
		merges := numbersOf(strings.Fields(c.merges))
		for k := range f {
			if is, ok := impl.IsMerge(f, k); is != slices.Contains(merges, k) || !ok {
				t.Errorf("IsMerge(%s, %d): %v %v", c.flow, k, is, ok)
			}
		}
	}
}

// Promise 14: which flows are as said.
func TestStructCan(t *testing.T) {
	for _, c := range []struct {
		flow    string
		can, ok bool
	}{
		{"end", true, true}, {"if 0 1 2; to 2; to 2", true, true}, {"if 0 0 1; trap", true, true},
		// no flow
		{"to 1", false, false}, {"out 12, end", false, false}, {"out -1, end", false, false}, {"const 0 65536, end", false, false}, {"if 12 0 0", false, false}, {"if 0 0 1; end; to 3", false, false},
		// blocks that are not come to
		{"end; end", false, true}, {"end; to 0", false, true}, {"to 1; to 0; end", false, true}, {"to 2; to 2; end", false, true}, {"if 0 1 2; end; trap; if 0 1 2", false, true}, {"to 1; end; to 3; to 2", false, true},
		// not reducible
		{"if 0 1 2; to 2; to 1", false, true}, {"if 0 1 2; if 0 2 3; if 0 1 3; end", false, true}, {"to 1; if 0 2 3; to 3; if 0 2 1", false, true}, {"table 0 1 2 3; to 2; to 3; to 1", false, true},
		// not come to, and what is come to is reducible, or is not
		{"end; if 0 2 3; to 3; to 2", false, true}, {"if 0 1 2; to 2; to 1; to 0", false, true},
		// names
		{"out 7, end", true, true}, {"out 8, end", false, true}, {"out 11, end", false, true}, {"if 7 0 0", true, true}, {"if 8 0 0", false, true},
		{"to 1; copy 7 7, to 2; out 7, if 7 0 1", true, true}, {"to 1; copy 7 7, to 2; out 8, if 7 0 1", false, true}, {"to 1; copy 7 7, to 2; out 7, if 8 0 1", false, true},
	} {
		f := flow(c.flow)
		checkAnyStruct(t, f)
		if can, ok := impl.CanStruct(f); can != c.can || ok != c.ok {
			t.Errorf("CanStruct(%s): %v %v, not %v %v", c.flow, can, ok, c.can, c.ok)
		}
	}
	// as many blocks as a graph may have nodes, and one more, and as many as a flow may have, and one more
	for many := 1; many <= 66; many++ {
		f := slices.Repeat([]impl.Block{{Go: impl.GoTo}}, many)
		for at := range f {
			f[at].Next = []int{(at + 1) % many}
		}
		checkAnyStruct(t, f)
		if can, ok := impl.CanStruct(f); can != (many <= 12) || ok != (many <= 64) {
			t.Errorf("%d blocks: %v %v", many, can, ok)
		}
	}
}

// Promises 14 and 19: each name that a step uses, just below MaxLocals and from there on; and each field that it does not use; alone, and in the last of several blocks.
func TestStructNames(t *testing.T) {
	some := []int{math.MinInt, -8, -1, 0, 6, 7, 8, 9, 11, 12, 13, 1 << 32, math.MaxInt}
	for op := 1; op <= 6; op++ {
		for i := 1; i <= 3; i++ {
			for _, n := range some {
				x := impl.Flat{Op: op}
				if op == impl.FxTwo {
					x.Do = impl.WMul
				}
				*fieldsOf(&x)[i] = n
				uses, isName := fieldsByHand(op)[i] != [2]int{}, n >= 0 && n < 12
				can, ok := n == 0 || uses && isName && n < 8, n == 0 || uses && isName
				for _, f := range [][]impl.Block{alone(x), {{Go: 2, Next: []int{1, 0}}, {Code: []impl.Flat{{Op: 6, A: 7}, x, {Op: 6}}, Go: 4}}} {
					checkAnyStruct(t, f)
					if is, good := impl.CanStruct(f); is != can || good != ok {
						t.Errorf("CanStruct(%v): %v %v", f, is, good)
					}
				}
				if _, good := checkFlats(t, []impl.Flat{x}); good != can {
					t.Errorf("FlatSteps(%v): %v", x, good)
				}
				if _, good := checkFlats(t, []impl.Flat{{Op: 6}, x, {Op: 6}}); good != can {
					t.Errorf("FlatSteps(%v behind another one): %v", x, good)
				}
			}
		}
	}
	for _, n := range some {
		for how, next := range [][]int{nil, {0}, {0, 0}, nil, nil, {0, 0, 0}} {
			f := []impl.Block{{Go: how, Test: n, Next: next}}
			checkAnyStruct(t, f)
			tests, isName := how == 2 || how == 5, n >= 0 && n < 12
			good := how > 0 && (n == 0 || tests && isName)
			if can, ok := impl.CanStruct(f); can != (good && n < 8) || ok != good {
				t.Errorf("CanStruct(%v): %v %v", f, can, ok)
			}
		}
	}
}

// Promise 14: each flat step as code, each Do, and several, one behind the other.
func TestStructFlats(t *testing.T) {
	for _, c := range []struct{ flats, code string }{
		{"", ""},
		{"const 0 0", "const 0, set 0"}, {"const 7 65535", "const 65535, set 7"},
		{"copy 1 2", "get 2, set 1"}, {"copy 7 7", "get 7, set 7"}, {"copy 0 7", "get 7, set 0"},
		{"add 1 2 3", "get 2, get 3, add, set 1"}, {"sub 1 2 3", "get 2, get 3, sub, set 1"}, {"mul 1 2 3", "get 2, get 3, mul, set 1"},
		{"div 1 2 3", "get 2, get 3, div, set 1"}, {"less 1 2 3", "get 2, get 3, less, set 1"}, {"eq 1 2 3", "get 2, get 3, eq, set 1"},
		{"sub 7 7 7", "get 7, get 7, sub, set 7"}, {"sub 0 1 0", "get 1, get 0, sub, set 0"}, {"div 7 0 6", "get 0, get 6, div, set 7"},
		{"load 4 5", "get 5, load, set 4"}, {"load 7 7", "get 7, load, set 7"},
		{"store 4 5", "get 4, get 5, store"}, {"store 5 4", "get 5, get 4, store"}, {"store 7 7", "get 7, get 7, store"},
		{"out 3", "get 3, out"}, {"out 7", "get 7, out"},
		{"out 1, out 1, const 1 2, out 1", "get 1, out, get 1, out, const 2, set 1, get 1, out"},
		{"const 3 9, copy 2 3, add 1 2 3, load 4 1, store 1 4, out 4", "const 9, set 3, get 3, set 2, get 2, get 3, add, set 1, get 1, load, set 4, get 1, get 4, store, get 4, out"},
	} {
		l := flow(c.flats)[0].Code
		if got, ok := checkFlats(t, l); !ok || !sameSteps(got, code(c.code)) {
			t.Errorf("FlatSteps(%s): %v %v, not %s", c.flats, got, ok, c.code)
		}
	}
	// as many as there may be, whatever comes of them, and one more
	for _, c := range []struct {
		flat  string
		steps int
	}{{"const 1 2", 2}, {"copy 1 2", 2}, {"add 1 2 3", 4}, {"load 1 2", 3}, {"store 1 2", 3}, {"out 1", 2}} {
		x := flow(c.flat)[0].Code
		for many := range 64 {
			l := slices.Repeat(x, many)
			if got, ok := checkFlats(t, l); ok != (many <= 60) || ok && len(got) != many*c.steps {
				t.Errorf("FlatSteps of %d of %s: %d %v", many, c.flat, len(got), ok)
			}
		}
		checkFlats(t, slices.Repeat(x, 100000))
	}
}

// Promises 14 and 19: flat steps of any kind, mostly good, with any fields.
func TestStructFlatsMixed(t *testing.T) {
	pick := someSource()
	some := []int{math.MinInt, -1, 0, 1, 3, 4, 5, 7, 8, 9, 10, 11, 12, 65535, 65536, math.MaxInt}
	good, wrong := 0, 0
	for range 20000 {
		var l []impl.Flat
		for range pick(5) * pick(5) * pick(5) {
			l = append(l, lowFlat(grownFlat(pick)))
		}
		if len(l) > 0 && pick(2) == 0 {
			x := &l[pick(len(l))]
			*append(fieldsOf(x), &x.Op)[pick(6)] = some[pick(len(some))]
		}
		if _, ok := checkFlats(t, l); ok {
			good++
		} else {
			wrong++
		}
	}
	if good < 5000 || wrong < 3000 {
		t.Errorf("so few of: %d good, %d wrong", good, wrong)
	}
}

// lowFlat gives a good flat step names of locals alone.
func lowFlat(x impl.Flat) impl.Flat {
	x.Dst, x.A, x.B = x.Dst%8, x.A%8, x.B%8
	return x
}

// lowFlow gives a good flow names of locals alone.
func lowFlow(f []impl.Block) []impl.Block {
	out := copyFlow(f)
	for at := range out {
		out[at].Test %= 8
		for i, x := range out[at].Code {
			out[at].Code[i] = lowFlat(x)
		}
	}
	return out
}

// waysOf tells all ways on of a block among so many: tables have up to so many Next.
func waysOf(many int, longest int) []impl.Block {
	out := []impl.Block{{Go: impl.GoEnd}, {Go: impl.GoTrap}}
	rows := [][]int{nil}
	for long := 1; long <= longest; long++ {
		var longer [][]int
		for _, row := range rows {
			for to := range many {
				longer = append(longer, append(slices.Clone(row), to))
			}
		}
		rows = longer
		for _, row := range rows {
			if long <= 2 {
				out = append(out, impl.Block{Go: long, Next: row})
			}
			if long >= 2 {
				out = append(out, impl.Block{Go: impl.GoTable, Next: row})
			}
		}
	}
	return out
}

// tellWhere lets each block tell a word of its own, and test another one.
func tellWhere(f []impl.Block) {
	for at := range f {
		f[at].Code = []impl.Flat{{Op: impl.FxOut, A: at % 8}, {Op: impl.FxTwo, Do: impl.WSub, Dst: (at + 3) % 8, A: (at + 3) % 8, B: 7}}
		if f[at].Go == impl.GoIf || f[at].Go == impl.GoTable {
			f[at].Test = (at + 3) % 8
		}
	}
}

// Promise 14: all flows of up to three blocks, with tables of up to so many Next.
func TestStructAllSmall(t *testing.T) {
	states := []impl.State{risingState(), stateOf(0, 0), {Locals: []int{0, 1, 0, 1, 1, 2, 0, 1}, Mem: make([]int, 16)}, {Locals: []int{1, 2, 3, 3, 1, 2, 5, 1}, Mem: make([]int, 16)}}
	for many, longest := range []int{0, 6, 5, 2} {
		var can, not, none, ends int
		var goOn func(f []impl.Block)
		ways := waysOf(many, longest)
		goOn = func(f []impl.Block) {
			if len(f) < many {
				for _, b := range ways {
					goOn(append(slices.Clone(f), b))
				}
				return
			}
			tellWhere(f)
			x, is := checkAnyStruct(t, f)
			switch {
			case !is:
				not++
			case x.why != "":
				none++
			default:
				can++
			}
			if !is || x.why != "" {
				return
			}
			for _, state := range states {
				if x.checkRun(t, state, 12, 90) > 0 {
					ends++
				}
			}
		}
		if many > 0 {
			goOn(nil)
			if want := []int{0, 9, 68 * 68, 23 * 23 * 23}[many]; can+not+none != want || ends < 4 || many > 1 && (ends < 150 || not < 500) || many == 1 && none != 1 {
				t.Errorf("%d blocks: %d, %d, %d, %d ends", many, can, not, none, ends)
			}
		}
	}
}

// onGraph tells blocks that lead to each other as the nodes of a graph do, some more than once; nothing, where there are too many edges.
func onGraph(g impl.Graph, pick func(int) int) []impl.Block {
	f := make([]impl.Block, len(g.Next))
	for at, next := range g.Next {
		b := &f[at]
		b.Next = slices.Clone(next)
		for len(next) > 0 && len(b.Next) < 6 && pick(1+8/len(b.Next)) == 0 { // an edge more, to one of these
			b.Next = append(b.Next, next[pick(len(next))])
		}
		for i := range b.Next {
			k := i + pick(len(b.Next)-i)
			b.Next[i], b.Next[k] = b.Next[k], b.Next[i]
		}
		switch many := len(b.Next); {
		case many == 0:
			b.Go = impl.GoEnd + pick(5)/4
		case many == 1:
			b.Go = impl.GoTo
		case many == 2 && pick(6) > 0:
			b.Go, b.Test = impl.GoIf, pick(8)
		case many <= 6:
			b.Go, b.Test = impl.GoTable, pick(8)
		default:
			return nil
		}
	}
	return f
}

// withCode gives blocks Code, mostly little of it, and the less the more they are.
func withCode(f []impl.Block, pick func(int) int) []impl.Block {
	for at := range f {
		many := max(0, pick(6)-1-pick(len(f)))
		if pick(40) == 0 {
			many = 5 + pick(56)
		}
		for range many {
			f[at].Code = append(f[at].Code, lowFlat(grownFlat(pick)))
		}
	}
	return f
}

// grownStruct is a flow as said, or, seldom, nothing.
func grownStruct(pick func(int) int) []impl.Block {
	return withCode(onGraph(grownReducible(pick, 1+pick(12)), pick), pick)
}

// tallyStruct counts what flows have.
type tallyStruct struct {
	whys           map[string]int
	sizes          [13]int // flows that are told, by their blocks
	deeps          [9]int  // by how deep they are
	loops, merges  int     // flows with some
	nested, tables int     // flows with a loop in a loop; with tables
	both           int     // flows with a head that is a merge
	hows           [3]int  // runs
}

func (c *tallyStruct) count(x restored) {
	if c.whys == nil {
		c.whys = map[string]int{}
	}
	c.whys[x.why]++
	if x.why != "" {
		return
	}
	c.sizes[len(x.f)]++
	c.deeps[x.deep]++
	some := func(many *int, is bool) {
		if is {
			*many++
		}
	}
	some(&c.loops, slices.Contains(x.heads, true))
	some(&c.merges, slices.Contains(x.merges, true))
	some(&c.tables, slices.ContainsFunc(x.l, func(s impl.Step) bool { return s.Op == impl.WTable }))
	both, nested := false, false
	for at := range x.f {
		both = both || at > 0 && x.heads[at] && x.merges[at]
	}
	for _, loop := range loopsByHand(graphByHand(x.f)) {
		nested = nested || loop.Up >= 0
	}
	some(&c.both, both)
	some(&c.nested, nested)
}

// look is promise 14 of a flow that may be as said, from several states, with drawn fuels.
func (c *tallyStruct) look(t *testing.T, f []impl.Block, pick func(int) int) {
	t.Helper()
	x, can := checkAnyStruct(t, f)
	if !can {
		return
	}
	c.count(x)
	if x.why != "" {
		return
	}
	for range 2 {
		state := grownState(pick)
		for _, fuel := range someFuels(pick) {
			c.hows[x.checkRun(t, state, fuel, []int{fuel, pick(200), 500}[pick(3)])]++
		}
	}
}

// check looks whether there were some of each.
func (c *tallyStruct) check(t *testing.T, least int, whys ...string) {
	t.Helper()
	for _, why := range append(whys, "") {
		if c.whys[why] < least {
			t.Errorf("so few of %q: %+v", why, *c)
		}
	}
	if min(c.loops, c.merges, c.nested, c.tables, c.both, c.hows[0], c.hows[1], c.hows[2]) < least {
		t.Errorf("so few of: %+v", *c)
	}
}

// Promise 14: flows that are grown on graphs that can be reduced.
func TestStructGrown(t *testing.T) {
	pick := someSource()
	var c tallyStruct
	for range 3000 {
		if f := grownStruct(pick); f != nil {
			if !canByHand(f) {
				t.Fatal(f)
			}
			c.look(t, f, pick)
		}
	}
	c.check(t, 20, "deep", "long", "table")
	if slices.Min(c.sizes[1:11]) < 20 || slices.Min(c.deeps[:]) < 20 {
		t.Errorf("so few of: %+v", c)
	}
}

// Promise 14: grown flows of any kind, all of whose names are locals, trimmed and joined.
func TestStructMixedFlows(t *testing.T) {
	pick := someSource()
	var c tallyStruct
	for range 1500 {
		f := grownFlow(pick)
		checkAnyStruct(t, f)
		trimmed, _, _ := impl.TrimFlow(lowFlow(f))
		c.look(t, trimmed, pick)
		joined, _ := impl.JoinFlow(trimmed)
		c.look(t, joined, pick)
	}
	c.check(t, 10, "long")
}

// Promise 14: flows of code. Where that has no more than its first locals, what lies on the stack finds names beside them.
func TestStructOfCode(t *testing.T) {
	pick := someSource()
	var c tallyStruct
	for range 3000 {
		l := grownCode(pick)
		for i := range l {
			if l[i].Op == impl.WGet || l[i].Op == impl.WSet {
				l[i].N %= 4
			}
		}
		lifted, ok := impl.LiftSteps(l)
		if !ok {
			continue
		}
		checkAnyStruct(t, lifted)
		joined, _ := impl.JoinFlow(lifted)
		for at := range joined {
			b := &joined[at]
			fields := []*int{&b.Test}
			for i := range b.Code {
				fields = append(fields, fieldsOf(&b.Code[i])[1:4]...)
			}
			for _, name := range fields {
				if *name >= 8 {
					*name -= 4
				}
			}
		}
		c.look(t, joined, pick)
		// and back to the code
		again, ok := impl.StructOf(joined)
		for range 3 {
			state := grownState(pick)
			want, wantHow, _, _ := impl.RunSteps(l, state, 500)
			got, how, _, is := impl.RunSteps(again, state, 1500)
			if !ok || !is || how == 3 || wantHow == 3 {
				continue
			}
			copy(got.Locals[4:], want.Locals[4:])
			if how != wantHow || !sameStates(got, want) {
				t.Fatalf("%v as %v, of %v: %v %d, not %v %d", l, again, state, got, how, want, wantHow)
			}
		}
	}
	c.check(t, 20, "long")
}

// Promise 14: flows that BackFlow tells, joined and as they are: of grown ssas, and of those that are made of code.
func TestStructOfBack(t *testing.T) {
	pick := someSource()
	var grown, made tallyStruct
	for range 1500 {
		s, _, _ := impl.DropUnused(lean(grownSsa(pick), pick))
		if pick(2) == 0 {
			s, _, _ = impl.DropUnused(lean(grownLooped(pick), pick))
		}
		if f, ok := impl.BackFlow(s); ok {
			grown.look(t, f, pick)
			joined, _ := impl.JoinFlow(f)
			grown.look(t, joined, pick)
		}
		lifted, _ := impl.LiftSteps(grownCode(pick))
		joined, _ := impl.JoinFlow(lifted)
		s, _ = impl.MakeSsa(joined)
		s, _, _ = impl.TrimParams(s)
		if f, ok := impl.BackFlow(s); ok {
			made.look(t, f, pick)
			joined, _ := impl.JoinFlow(f)
			made.look(t, joined, pick)
		}
	}
	grown.check(t, 20, "long")
	if made.whys[""] < 1000 || made.whys["long"] < 5 || min(made.loops, made.merges, made.tables) < 100 || made.nested < 5 || slices.Min(made.hows[:]) < 1000 {
		t.Errorf("so few of: %+v", made)
	}
}

// Promise 14: code told by its words, by way of blocks and values to code again: what is kept, stored and told is the same.
func TestStructOfWords(t *testing.T) {
	for _, text := range []string{
		"", "trap", "get 1, out", "get 3, out", "const 5, set 0, get 0, const 7, store",
		"get 0, get 1, set 0, set 1, get 0, out, get 1, out",
		"get 0, if, const 5, set 1, end, get 1, out",
		"get 0, if, const 5, set 1, else, const 6, set 1, end, get 1, out",
		"loop, get 0, out, get 0, const 1, sub, set 0, get 0, brif 0, end, get 1, out",
		"loop, get 0, out, block, get 1, if, br 1, end, trap, end, get 0, const 1, sub, set 0, get 0, brif 0, end",
		"block, block, get 0, table 0 1, end, const 1, out, br 0, end, const 2, out",
		"block, loop, get 0, if, get 0, const 1, sub, set 0, br 1, end, get 1, brif 1, end, trap, end",
		"get 0, get 1, div, set 0, get 0, load, out",
	} {
		l := code(text)
		f, _ := impl.LiftSteps(l)
		f, _ = impl.JoinFlow(f)
		made, _ := impl.MakeSsa(f)
		trimmed, _, _ := impl.TrimParams(made)
		back, _ := impl.BackFlow(trimmed)
		back, _ = impl.JoinFlow(back)
		x := checkStruct(t, back)
		if x.why != "" {
			t.Error(text, back, x.why)
		}
		for a := 1; a <= 4; a++ {
			for b := 1; b <= 4; b++ {
				state := stateOf(a, b)
				x.checkRun(t, state, 100, 1000)
				want, wantHow, _, _ := impl.RunSteps(l, state, 1000)
				if got, how, _, ok := impl.RunSteps(x.l, state, 2000); ok && how != 3 && wantHow != 3 {
					checkSameKept(t, x.l, got, how, want, wantHow)
				} else if !ok || wantHow != 3 {
					t.Errorf("%v: %d %v, not %d", x.l, how, ok, wantHow)
				}
			}
		}
	}
}

// Promise 19: blocks that are no flow.
func TestStructWrong(t *testing.T) {
	for _, f := range [][]impl.Block{
		nil, {}, {{}}, make([]impl.Block, 5), make([]impl.Block, 65), slices.Repeat(flow("end"), 65), slices.Repeat(flow("end"), 100000),
		flow("to 1"), flow("to -1"), flow("if 0 0 1"), flow("if 0 0"), flow("if 0 0 0 0"), flow("table 0 0"), flow("table 0 0 0 0 0 0 0 0"), flow("table 0 0 0 3"), flow("if -1 0 0"), flow("if 12 0 0"), flow("table -1 0 0"), flow("table 12 0 0"),
		{{Go: 3, Next: []int{0}}}, {{Go: 4, Next: []int{0}}}, {{Go: 3, Test: 1}}, {{Go: 4, Test: 7}}, {{Go: 1, Test: 1, Next: []int{0}}}, {{Go: 1}}, {{Go: 2}}, {{Go: 5}}, {{Go: 6}}, {{Go: -1}}, {{Go: math.MaxInt, Next: []int{0}}}, {{Go: 1, Next: []int{math.MinInt}}}, {{Go: 1, Next: []int{math.MaxInt}}},
		flow("const 0 -1, end"), flow("const 0 65536, end"), flow("const -1 0, end"), flow("copy 12 0, end"), flow("add 0 0 12, end"), flow("if 0 0 1; store -1 0, end"),
		{{Code: []impl.Flat{{}}, Go: 3}}, {{Code: []impl.Flat{{Op: 7}}, Go: 3}}, {{Code: []impl.Flat{{Op: 3}}, Go: 3}}, {{Code: []impl.Flat{{Op: 3, Do: 3}}, Go: 3}}, {{Code: []impl.Flat{{Op: 3, Do: 10}}, Go: 3}}, {{Code: []impl.Flat{{Op: 6, Dst: 1}}, Go: 3}}, {{Code: []impl.Flat{{Op: 1, N: 1, A: 1}}, Go: 3}}, {{Code: []impl.Flat{{Op: 2, N: 1}}, Go: 3}}, {{Code: []impl.Flat{{Op: 5, Do: 4}}, Go: 3}},
		{{Code: make([]impl.Flat, 61), Go: 3}}, {{Code: slices.Repeat(flow("out 0, end")[0].Code, 61), Go: 3}},
		// in a block that is not come to
		flow("end; to 2"), flow("end; out 12, end"), {{Go: 3}, {}},
	} {
		if canByHand(f) || goodFlowByHand(f) {
			t.Error(f)
		}
		checkNoStruct(t, f)
	}
	for _, l := range [][]impl.Flat{{{}}, {{Op: -1}}, {{Op: 7}}, {{Op: 3}}, {{Op: 3, Do: 3}}, {{Op: 3, Do: 10}}, {{Op: 6, Dst: 1}}, {{Op: 6, N: 1}}, {{Op: 1, N: -1}}, {{Op: 1, N: 65536}}, {{Op: 1, A: 1}}, {{Op: 2, B: 1}}, {{Op: 2, Do: 4}}, {{Op: 4, N: 1}}, {{Op: 5, Dst: 1}}, {{Op: 6}, {}}, make([]impl.Flat, 60), make([]impl.Flat, 61)} {
		if _, ok := checkFlats(t, l); ok {
			t.Error(l)
		}
	}
}

// Promises 14 and 19: grown flows of which one number became another, or one list is longer or shorter.
func TestStructAnything(t *testing.T) {
	pick := someSource()
	some := []int{math.MinInt, -1, 0, 1, 2, 3, 4, 5, 6, 7, 8, 9, 11, 12, 13, 64, 65536, math.MaxInt}
	can, good, wrong := 0, 0, 0
	for range 6000 {
		f := grownStruct(pick)
		if f == nil {
			continue
		}
		b := &f[pick(len(f))]
		numbers := []*int{&b.Go, &b.Test}
		for i := range b.Next {
			numbers = append(numbers, &b.Next[i], &b.Next[i])
		}
		for i := range b.Code {
			numbers = append(append(numbers, &b.Code[i].Op), fieldsOf(&b.Code[i])...)
		}
		*numbers[pick(len(numbers))] = some[pick(len(some))]
		switch pick(10) {
		case 0:
			b.Next = append(b.Next, pick(len(f)))
		case 1:
			b.Next = b.Next[:len(b.Next)/2]
		case 2:
			f = append(f, impl.Block{Go: impl.GoEnd})
		case 3:
			f = f[:len(f)-1]
		}
		x, is := checkAnyStruct(t, f)
		switch {
		case is:
			can++
			x.checkRun(t, stateOf(pick(3), 2), 30, 200)
		case goodFlowByHand(f):
			good++
		default:
			wrong++
		}
	}
	if can < 500 || good < 500 || wrong < 1000 {
		t.Errorf("so few of: %d as said, %d good, %d wrong", can, good, wrong)
	}
}

// Promise 19: nil lists and empty ones are alike.
func TestStructOfNothing(t *testing.T) {
	var flats [3]impl.Flat
	for _, none := range [][]int{nil, {}, places(3)[:0]} {
		for _, steps := range [][]impl.Flat{nil, {}, flats[:0]} {
			f := []impl.Block{{Code: steps, Go: impl.GoIf, Next: []int{1, 2}}, {Code: steps, Go: impl.GoEnd, Next: none}, {Code: steps, Go: impl.GoTrap, Next: none}}
			if x := checkStruct(t, f); !sameSteps(x.l, code("get 0, if, br 1, else, trap, end")) {
				t.Error(x.l)
			}
			if l, ok := checkFlats(t, steps); len(l) != 0 || !ok {
				t.Error(l, ok)
			}
		}
	}
	checkNoStruct(t, []impl.Block{})
	checkNoStruct(t, flow("end; end")[:0])
}

// sharedWays is a flow as said whose lists lie in one memory, with something behind their lengths, and with blocks behind it.
func sharedWays() ([]impl.Block, []impl.Flat, []int) {
	flats := append(flow("const 7 1, out 7, copy 6 7, store 6 7, div 1 1 6, end")[0].Code, impl.Flat{Op: 99, A: -3}, impl.Flat{Op: 6, A: 12})
	next := []int{1, 2, 3, 0, 4, -5, 77}
	memory := []impl.Block{
		{Code: flats[:2], Go: impl.GoTo, Next: next[:1]},
		{Code: flats[:5], Go: impl.GoTable, Test: 7, Next: next[1:4]},
		{Code: flats[1:3], Go: impl.GoTable, Test: 2, Next: next[1:5]},
		{Code: flats[:0], Go: impl.GoEnd, Next: next[4:4]},
		{Code: flats[4:5], Go: impl.GoTrap, Next: next[:0]},
		{Go: 88, Next: next[4:]},
		{Code: flats},
	}
	return memory, flats, next
}

// Promise 19: no list that is handed in is changed, nor what lies behind it; and that tells nothing.
func TestStructListsStay(t *testing.T) {
	memory, flats, next := sharedWays()
	before, flatsBefore, nextBefore := copyFlow(memory), slices.Clone(flats), slices.Clone(next)
	for many := range len(memory) + 1 {
		checkAnyStruct(t, memory[:many])
		checkAnyStruct(t, memory[many:])
	}
	x := checkStruct(t, memory[:5])
	want := "loop, const 1, set 7, get 7, out, block, block, const 1, set 7, get 7, out, get 7, set 6, get 6, get 7, store, get 1, get 6, div, set 1, get 7, table 0 1 2, end, loop, block, get 7, out, get 7, set 6, get 2, table 1 2 3 0, end, get 1, get 6, div, set 1, trap, end, end, br 1, end"
	if !sameSteps(x.l, code(want)) {
		t.Error(x.l)
	}
	for fuel := range 10 {
		x.checkRun(t, risingState(), fuel, 20*fuel)
	}
	for from := range len(flats) {
		for to := from; to <= len(flats); to++ {
			if _, ok := checkFlats(t, flats[from:to]); ok != (to <= 5 || from == to) {
				t.Error(from, to)
			}
		}
	}
	if !sameFlow(memory, before) || !slices.Equal(flats, flatsBefore) || !slices.Equal(next, nextBefore) {
		t.Error(memory, flats, next)
	}
}

// checkStepsAreNew spoils each Table of code that is told, and looks at all its other steps, at other answers, and at what stays.
func checkStepsAreNew(t *testing.T, ask func() []impl.Step, stays func() bool) {
	t.Helper()
	want := copySteps(ask())
	for at := range want {
		first, second := ask(), ask()
		for _, x := range first {
			if got := x.Table; slices.ContainsFunc(got[:cap(got)][len(got):], func(n int) bool { return n != 0 }) {
				t.Error("behind a Table: ", got[:cap(got)])
			}
		}
		if got := first[:cap(first)]; slices.ContainsFunc(got[len(first):], func(x impl.Step) bool { return x.Op != 0 || x.N != 0 || len(x.Table) > 0 }) {
			t.Error("behind the steps: ", got)
		}
		spoilNumbers(first[at].Table)
		for i := range first {
			if i != at && !sameStep(first[i], want[i]) {
				t.Errorf("step %d spoilt: %v, not %v", at, first, want)
			}
		}
		first = first[:cap(first)]
		for i := range first {
			first[i] = step(99, 98, 97)
		}
		if third := ask(); !sameSteps(second, want) || !sameSteps(third, want) || !stays() {
			t.Errorf("%v and %v, not %v", second, third, want)
		}
	}
}

// Promise 19: what is told shares no memory with what was handed in, even where that shares its own, nor do two lists of one answer share any, nor two answers.
func TestStructAnswersAreNew(t *testing.T) {
	memory, flats, next := sharedWays()
	before, flatsBefore, nextBefore := copyFlow(memory), slices.Clone(flats), slices.Clone(next)
	for _, f := range [][]impl.Block{
		memory[:5], flow("end"), flow("to 0"), flow("table 0 1 2 2; table 0 3 3 3; table 1 3 4 3; table 0 4 4; to 0"),
		flow("if 0 1 2; if 1 3 4; if 2 3 4; out 3, table 1 5 6; to 6; end; table 0 0 6 0"), flow("if 0 1 2; table 1 3 4 3; table 1 3 4 3; end; trap"),
	} {
		kept := copyFlow(f)
		stays := func() bool {
			return sameFlow(f, kept) && sameFlow(memory, before) && slices.Equal(flats, flatsBefore) && slices.Equal(next, nextBefore)
		}
		if x := checkStruct(t, f); x.why != "" {
			t.Error(f, x.why)
		}
		checkStepsAreNew(t, func() []impl.Step { got, _ := impl.StructOf(f); return got }, stays)
		checkListsAreNew(t, func() [][]int { got, _ := impl.DomTree(f); return got }, stays)
		for _, b := range f {
			checkStepsAreNew(t, func() []impl.Step { got, _ := impl.FlatSteps(b.Code); return got }, stays)
		}
	}
}

// Promises 14 and 19: the same answer on many runs.
func TestStructEachTime(t *testing.T) {
	pick := someSource()
	for range 30 {
		f := grownStruct(pick)
		l, is := impl.StructOf(f)
		below, can := impl.DomTree(f)
		for range 10 {
			if got, ok := impl.StructOf(f); !sameSteps(got, l) || ok != is {
				t.Fatalf("StructOf(%v): %v %v, not %v %v", f, got, ok, l, is)
			}
			if got, ok := impl.DomTree(f); !sameLists(got, below) || ok != can {
				t.Fatalf("DomTree(%v): %v %v, not %v %v", f, got, ok, below, can)
			}
		}
	}
}
