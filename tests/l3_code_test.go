package tests

import (
	"fmt"
	"math"
	"slices"
	"strings"
	"testing"

	"loop.example/g00373/impl"
)

// ops tells steps that have nothing beside their Op.
func ops(list ...int) []impl.Step {
	var out []impl.Step
	for _, op := range list {
		out = append(out, impl.Step{Op: op})
	}
	return out
}

// joined puts pieces of code one behind the other.
func joined(parts ...[]impl.Step) []impl.Step {
	return slices.Concat(parts...)
}

// blocks tells code within so many blocks.
func blocks(many int, inner ...impl.Step) []impl.Step {
	return joined(slices.Repeat(ops(impl.WBlock), many), inner, slices.Repeat(ops(impl.WEnd), many))
}

func step(op int, n int, table ...int) impl.Step {
	return impl.Step{Op: op, N: n, Table: table}
}

func sameStep(a impl.Step, b impl.Step) bool {
	return a.Op == b.Op && a.N == b.N && slices.Equal(a.Table, b.Table)
}

func sameSteps(a []impl.Step, b []impl.Step) bool {
	return slices.EqualFunc(a, b, sameStep)
}

// copySteps copies Tables, too.
func copySteps(l []impl.Step) []impl.Step {
	out := slices.Clone(l)
	for i := range out {
		out[i].Table = slices.Clone(out[i].Table)
	}
	return out
}

// numberByHand tells a number's bytes, by division alone.
func numberByHand(n int) string {
	if n < 128 {
		return string([]byte{byte(n)})
	}
	return string([]byte{byte(128 + n%128)}) + numberByHand(n/128)
}

func codeByHand(l []impl.Step) string {
	text := ""
	for _, x := range l {
		text += numberByHand(x.Op)
		switch x.Op {
		case 22:
			text += numberByHand(len(x.Table))
			for _, n := range x.Table {
				text += numberByHand(n)
			}
			text += numberByHand(x.N)
		case 1, 2, 3, 20, 21:
			text += numberByHand(x.N)
		}
	}
	return text
}

// everyOp is good code with each Op in it.
func everyOp() []impl.Step {
	return joined(
		[]impl.Step{step(impl.WConst, 300), step(impl.WGet, 7), step(impl.WSet, 1)},
		ops(impl.WAdd, impl.WSub, impl.WMul, impl.WDiv, impl.WLess, impl.WEq, impl.WLoad, impl.WStore, impl.WOut, impl.WDrop, impl.WTrap),
		ops(impl.WBlock, impl.WLoop, impl.WIf),
		[]impl.Step{step(impl.WBr, 3), {Op: impl.WElse}, step(impl.WBrIf, 2), step(impl.WTable, 1, 0, 3, 2)},
		ops(impl.WEnd, impl.WEnd, impl.WEnd),
	)
}

// someCode is good: from no step to MaxCode, with numbers at the edges of one byte more, and nested up to MaxNest.
func someCode() [][]impl.Step {
	out := [][]impl.Step{
		nil,
		{},
		everyOp(),
		blocks(impl.MaxNest),
		blocks(impl.MaxNest, step(impl.WBr, 8), step(impl.WBrIf, 8), step(impl.WTable, 8, 8, 8, 8, 8)),
		slices.Repeat(ops(impl.WTrap), impl.MaxCode),
		slices.Repeat([]impl.Step{step(impl.WConst, impl.WordMask)}, impl.MaxCode),
		slices.Repeat(ops(impl.WBlock, impl.WEnd), impl.MaxCode/2),
		blocks(7, joined(ops(impl.WIf, impl.WElse, impl.WEnd), ops(impl.WLoop, impl.WEnd))...),
		{step(impl.WTable, 0, 0)},
		{step(impl.WTable, 0, 0, 0, 0, 0), step(impl.WTable, 0, 0, 0), step(impl.WTable, 0, 0, 0, 0)},
		blocks(3, step(impl.WTable, 1, 3), step(impl.WTable, 3, 0, 1, 2, 3)),
		{{Op: impl.WAdd, Table: []int{}}, {Op: impl.WConst, N: 5, Table: []int{}}},
		ops(impl.WGet, impl.WIf, impl.WLoop, impl.WEnd, impl.WElse, impl.WIf, impl.WElse, impl.WEnd, impl.WEnd),
	}
	for _, n := range []int{0, 1, 127, 128, 129, 255, 256, 16383, 16384, impl.WordMask - 1, impl.WordMask} {
		out = append(out, []impl.Step{step(impl.WConst, n)})
	}
	for n := range impl.MaxLocals {
		out = append(out, []impl.Step{step(impl.WGet, n), step(impl.WSet, n)})
	}
	for op := impl.WConst; op <= impl.WTable; op++ {
		x := impl.Step{Op: op}
		if op == impl.WTable {
			x.Table = []int{0}
		}
		out = append(out, standing(x))
	}
	return out
}

// standing lays a step where nothing but what it is itself decides whether it may stand.
func standing(x impl.Step) []impl.Step {
	switch x.Op {
	case impl.WBlock, impl.WLoop, impl.WIf:
		return []impl.Step{x, {Op: impl.WEnd}}
	case impl.WElse:
		return []impl.Step{{Op: impl.WIf}, x, {Op: impl.WEnd}}
	case impl.WEnd:
		return []impl.Step{{Op: impl.WBlock}, x}
	}
	return blocks(impl.MaxNest, x)
}

func checkSteps(t *testing.T, s string, want []impl.Step, wantCode int) {
	t.Helper()
	l, code, ok := impl.ReadSteps(s)
	if wantCode != 0 {
		want = nil
	}
	if !sameSteps(l, want) || code != wantCode || ok != (wantCode == 0) {
		t.Errorf("ReadSteps(%x): %v %d %v, not %v %d", s, l, code, ok, want, wantCode)
	}
}

// Promise 3: the constants are as the document has them.
func TestCodeLimits(t *testing.T) {
	if impl.MaxCode != 60 || impl.MaxLocals != 8 || impl.MaxNest != 8 || impl.WordMask != 65535 {
		t.Error(impl.MaxCode, impl.MaxLocals, impl.MaxNest, impl.WordMask)
	}
	for i, op := range []int{
		impl.WConst, impl.WGet, impl.WSet, impl.WAdd, impl.WSub, impl.WMul, impl.WDiv, impl.WLess, impl.WEq, impl.WLoad, impl.WStore,
		impl.WOut, impl.WDrop, impl.WTrap, impl.WBlock, impl.WLoop, impl.WIf, impl.WElse, impl.WEnd, impl.WBr, impl.WBrIf, impl.WTable,
	} {
		if op != i+1 {
			t.Error(op, i+1)
		}
	}
}

// Promise 3: code comes back from its bytes, and these are as written out.
func TestCodeComesBack(t *testing.T) {
	for _, l := range someCode() {
		if !impl.GoodSteps(l) {
			t.Errorf("GoodSteps(%v)", l)
		}
		s, ok := impl.StepsBytes(l)
		if want := codeByHand(l); s != want || !ok {
			t.Errorf("StepsBytes(%v): %x %v, not %x", l, s, ok, want)
		}
		checkSteps(t, s, l, 0)
	}
	s, ok := impl.StepsBytes(everyOp())
	if want := "\x01\xac\x02\x02\x07\x03\x01\x04\x05\x06\x07\x08\x09\x0a\x0b\x0c\x0d\x0e\x0f\x10\x11\x14\x03\x12\x15\x02\x16\x03\x00\x03\x02\x01\x13\x13\x13"; s != want || !ok {
		t.Errorf("%x %v", s, ok)
	}
}

// longCode has so many bytes: Tables of 7 bytes each, then steps of one byte.
func longCode(many int) []impl.Step {
	l := slices.Repeat([]impl.Step{step(impl.WTable, 0, 0, 0, 0, 0)}, many/7)
	return append(l, slices.Repeat(ops(impl.WOut), many%7)...)
}

// Promise 3: code of 400 bytes comes back; code of more has bytes, but these are not read.
func TestCodeLongBytes(t *testing.T) {
	for _, many := range []int{393, 399, 400} {
		l := longCode(many)
		s, ok := impl.StepsBytes(l)
		if len(s) != many || s != codeByHand(l) || !ok {
			t.Errorf("%d bytes: %x %v", many, s, ok)
		}
		checkSteps(t, s, l, 0)
	}
	for _, many := range []int{401, 402, 406, 413, 420} {
		l := longCode(many)
		s, ok := impl.StepsBytes(l)
		if len(s) != many || s != codeByHand(l) || !ok {
			t.Errorf("%d bytes: %x %v", many, s, ok)
		}
		if got, code, ok := impl.ReadSteps(s); len(got) != 0 || code != 0 || ok {
			t.Errorf("ReadSteps of %d bytes: %v %d %v", many, got, code, ok)
		}
	}
}

// Promise 3: numbers with noughts on top read too, of every kind; StepsBytes tells as few bytes as can be.
func TestCodeNoughtsOnTop(t *testing.T) {
	for _, c := range []struct {
		text string
		want []impl.Step
	}{
		{"\x01\x80\x00", []impl.Step{step(impl.WConst, 0)}},
		{"\x01\xac\x82\x80\x80\x00", []impl.Step{step(impl.WConst, 300)}},
		{"\x01\xff\xff\x83\x80\x00", []impl.Step{step(impl.WConst, impl.WordMask)}},
		{"\x02\x87\x00\x03\x81\x80\x80\x80\x00", []impl.Step{step(impl.WGet, 7), step(impl.WSet, 1)}},
		{"\x0f\x14\x81\x00\x15\x80\x80\x00\x13", blocks(1, step(impl.WBr, 1), step(impl.WBrIf, 0))},
		{"\x0f\x16\x82\x80\x00\x81\x00\x80\x80\x80\x80\x00\x81\x80\x80\x80\x00\x13", blocks(1, step(impl.WTable, 1, 1, 0))},
	} {
		checkSteps(t, c.text, c.want, 0)
		if s, ok := impl.StepsBytes(c.want); s != codeByHand(c.want) || s == c.text || !ok {
			t.Errorf("%x %v", s, ok)
		}
	}
}

// wordOf tells each Op's word, and the greatest N that it may have (-1: it tells none).
func wordOf(op int) (string, int) {
	words := strings.Fields("const get set add sub mul div less eq load store out drop trap block loop if else end br brif table")
	most := -1
	switch op {
	case 1:
		most = 65535
	case 2, 3:
		most = 7
	case 20, 21, 22:
		most = 8
	}
	return words[op-1], most
}

// textByHand tells a step's text, or nothing if it may stand nowhere.
func textByHand(x impl.Step) string {
	if x.Op < 1 || x.Op > 22 {
		return ""
	}
	word, most := wordOf(x.Op)
	numbers := append(slices.Clone(x.Table), x.N)
	for _, n := range numbers {
		if n < 0 || n > max(most, 0) {
			return ""
		}
	}
	if (x.Op == 22) != (len(x.Table) > 0) || len(x.Table) > 4 {
		return ""
	}
	if most < 0 {
		return word
	}
	return word + " " + strings.Trim(fmt.Sprint(numbers), "[]")
}

// Promises 3 and 19: each Op with N at its ends and beyond, and with each kind of Table: where it may stand it has a text, and otherwise nothing.
func TestCodeEachStep(t *testing.T) {
	numbers := []int{math.MinInt, -65536, -1, 0, 1, 6, 7, 8, 9, 127, 128, 300, 65534, 65535, 65536, 1 << 32, math.MaxInt}
	tables := [][]int{
		nil, {}, {0}, {8}, {9}, {-1}, {7, 8}, {0, 2}, {0, -1}, {1, 2, 3}, {9, 0, 0}, {8, 8, 8, 8}, {0, 1, 2, 3}, {0, 0, 0, 9}, {0, 0, 0, math.MinInt},
		{0, 0, 0, 0, 0}, {1, 2, 3, 4, 5}, slices.Repeat([]int{0}, 51),
	}
	for _, op := range []int{math.MinInt, -22, -1, 0, 23, 24, 256 + impl.WAdd, math.MaxInt} {
		checkStep(t, impl.Step{Op: op})
		checkStep(t, step(op, 0, 0))
	}
	for op := impl.WConst; op <= impl.WTable; op++ {
		for _, n := range numbers {
			for _, table := range tables {
				checkStep(t, step(op, n, table...))
			}
		}
	}
}

func checkStep(t *testing.T, x impl.Step) {
	t.Helper()
	want := textByHand(x)
	if s, ok := impl.StepText(x); s != want || ok != (want != "") {
		t.Errorf("StepText(%v): %q %v, not %q", x, s, ok, want)
	}
	l := standing(x)
	if got := impl.GoodSteps(l); got != (want != "") {
		t.Errorf("GoodSteps(%v): %v", l, got)
	}
	if want == "" {
		checkNoCode(t, l)
		return
	}
	s, ok := impl.StepsBytes(l)
	if s != codeByHand(l) || !ok {
		t.Errorf("StepsBytes(%v): %x %v", l, s, ok)
	}
	checkSteps(t, s, l, 0)
}

// checkNoCode looks for the zero answer everywhere, at code that is not good, and whether the code stays as it was.
func checkNoCode(t *testing.T, l []impl.Step) {
	t.Helper()
	before := copySteps(l)
	if impl.GoodSteps(l) {
		t.Errorf("GoodSteps(%v)", l)
	}
	if s, ok := impl.StepsBytes(l); s != "" || ok {
		t.Errorf("StepsBytes(%v): %x %v", l, s, ok)
	}
	if got, ok := impl.EndsOf(l); len(got) != 0 || ok {
		t.Errorf("EndsOf(%v): %v %v", l, got, ok)
	}
	if got, ok := impl.DepthsOf(l); len(got) != 0 || ok {
		t.Errorf("DepthsOf(%v): %v %v", l, got, ok)
	}
	for at := -1; at <= len(l); at++ {
		if got, ok := impl.TargetOf(l, at, 0); got != 0 || ok {
			t.Errorf("TargetOf(%v, %d, 0): %v %v", l, at, got, ok)
		}
	}
	if !sameSteps(l, before) {
		t.Errorf("%v was %v", l, before)
	}
}

// Promise 3: each step's text as the document writes it.
func TestCodeTexts(t *testing.T) {
	for _, c := range []struct {
		x    impl.Step
		want string
	}{
		{step(impl.WConst, 5), "const 5"},
		{step(impl.WConst, 0), "const 0"},
		{step(impl.WConst, 65535), "const 65535"},
		{step(impl.WGet, 1), "get 1"},
		{step(impl.WSet, 1), "set 1"},
		{step(impl.WAdd, 0), "add"},
		{step(impl.WSub, 0), "sub"},
		{step(impl.WMul, 0), "mul"},
		{step(impl.WDiv, 0), "div"},
		{step(impl.WLess, 0), "less"},
		{step(impl.WEq, 0), "eq"},
		{step(impl.WLoad, 0), "load"},
		{step(impl.WStore, 0), "store"},
		{step(impl.WOut, 0), "out"},
		{step(impl.WDrop, 0), "drop"},
		{step(impl.WTrap, 0), "trap"},
		{step(impl.WBlock, 0), "block"},
		{step(impl.WLoop, 0), "loop"},
		{step(impl.WIf, 0), "if"},
		{step(impl.WElse, 0), "else"},
		{step(impl.WEnd, 0), "end"},
		{step(impl.WBr, 1), "br 1"},
		{step(impl.WBrIf, 1), "brif 1"},
		{step(impl.WBrIf, 8), "brif 8"},
		{step(impl.WTable, 1, 0, 2), "table 0 2 1"},
		{step(impl.WTable, 0, 8), "table 8 0"},
		{step(impl.WTable, 8, 3, 2, 1, 0), "table 3 2 1 0 8"},
		{step(impl.WBr, 9), ""},
		{step(impl.WAdd, 1), ""},
		{step(impl.WEnd, -1), ""},
		{step(impl.WGet, 8), ""},
		{step(impl.WConst, 65536), ""},
		{step(impl.WTable, 0), ""},
		{step(impl.WTable, 0, 1, 2, 3, 4, 5), ""},
		{step(impl.WConst, 5, 1), ""},
	} {
		if s, ok := impl.StepText(c.x); s != c.want || ok != (c.want != "") {
			t.Errorf("StepText(%v): %q %v, not %q", c.x, s, ok, c.want)
		}
	}
}

// Promises 3 and 19: what is open must be shut, a WElse stands right within a WIf, once, and no more than MaxNest are open.
func TestCodeShape(t *testing.T) {
	const b, l, i, e, d = impl.WBlock, impl.WLoop, impl.WIf, impl.WElse, impl.WEnd
	for _, c := range []struct {
		ops  []int
		good bool
	}{
		{[]int{b, d}, true},
		{[]int{l, d}, true},
		{[]int{i, d}, true},
		{[]int{i, e, d}, true},
		{[]int{b, l, i, e, d, d, d}, true},
		{[]int{b, d, b, d}, true},
		{[]int{i, i, e, d, e, i, e, d, d}, true},
		{[]int{i, b, d, e, b, d, d}, true},
		{[]int{i, d, i, e, d}, true},
		{[]int{d}, false},
		{[]int{b}, false},
		{[]int{l}, false},
		{[]int{i}, false},
		{[]int{i, e}, false},
		{[]int{b, d, d}, false},
		{[]int{b, b, d}, false},
		{[]int{d, b}, false},
		{[]int{b, d, d, b}, false},
		{[]int{i, e, e, d}, false},
		{[]int{i, e, b, e, d, d}, false},
		{[]int{i, e, b, d, e, d}, false},
		{[]int{e}, false},
		{[]int{e, d}, false},
		{[]int{b, e, d}, false},
		{[]int{l, e, d}, false},
		{[]int{i, b, e, d, d}, false},
		{[]int{i, l, e, d, d}, false},
		{[]int{i, d, e}, false},
		{[]int{i, d, e, d}, false},
		{[]int{b, i, d, e, d}, false},
		{[]int{i, i, e, d, e, e, d}, false},
	} {
		code := ops(c.ops...)
		if got := impl.GoodSteps(code); got != c.good {
			t.Errorf("GoodSteps(%v): %v", code, got)
		}
		if !c.good {
			checkNoCode(t, code)
		}
	}
	for _, opener := range []int{b, l, i} {
		most := joined(slices.Repeat(ops(opener), 8), slices.Repeat(ops(d), 8))
		more := joined(slices.Repeat(ops(opener), 9), slices.Repeat(ops(d), 9))
		if !impl.GoodSteps(most) || !impl.GoodSteps(joined(most, most, most)) {
			t.Errorf("8 of %d open", opener)
		}
		checkNoCode(t, more)
		checkNoCode(t, joined(most, more))
	}
}

// Promises 3 and 19: MaxCode steps are code, one more is none.
func TestCodeTooLong(t *testing.T) {
	for _, l := range [][]impl.Step{
		slices.Repeat(ops(impl.WOut), impl.MaxCode),
		slices.Repeat(ops(impl.WIf, impl.WElse, impl.WEnd), impl.MaxCode/3),
		blocks(8, slices.Repeat(ops(impl.WOut), impl.MaxCode-16)...),
	} {
		if len(l) != impl.MaxCode || !impl.GoodSteps(l) {
			t.Errorf("%d steps", len(l))
		}
		checkNoCode(t, append(l, impl.Step{Op: impl.WOut}))
		checkNoCode(t, joined(l, l, l))
	}
	checkNoCode(t, make([]impl.Step, 100000))
}

// Promises 3 and 19: a jump goes as many out as are open where it stands, and no more.
func TestCodeJumps(t *testing.T) {
	for many := range impl.MaxNest + 1 {
		for n := range impl.MaxNest + 2 {
			for _, x := range []impl.Step{
				step(impl.WBr, n), step(impl.WBrIf, n), step(impl.WTable, n, 0), step(impl.WTable, 0, n), step(impl.WTable, 0, 0, n), step(impl.WTable, 0, n, 0, 0, 0), step(impl.WTable, 0, 0, 0, 0, n),
			} {
				l := blocks(many, x)
				if got := impl.GoodSteps(l); got != (n <= many) {
					t.Errorf("GoodSteps(%v): %v", l, got)
				}
				behind := append(blocks(many), x)
				if got := impl.GoodSteps(behind); got != (n == 0) {
					t.Errorf("GoodSteps(%v): %v", behind, got)
				}
			}
		}
	}
	for _, c := range []struct {
		l    []impl.Step
		good bool
	}{
		{[]impl.Step{{Op: impl.WIf}, step(impl.WBr, 1), {Op: impl.WElse}, step(impl.WBr, 1), {Op: impl.WEnd}, step(impl.WBr, 0)}, true},
		{[]impl.Step{{Op: impl.WIf}, {Op: impl.WElse}, step(impl.WBr, 2), {Op: impl.WEnd}}, false},
		{[]impl.Step{{Op: impl.WIf}, step(impl.WBr, 2), {Op: impl.WElse}, {Op: impl.WEnd}}, false},
		{[]impl.Step{{Op: impl.WLoop}, {Op: impl.WEnd}, step(impl.WBrIf, 1)}, false},
		{[]impl.Step{step(impl.WBrIf, 1), {Op: impl.WLoop}, {Op: impl.WEnd}}, false},
	} {
		if got := impl.GoodSteps(c.l); got != c.good {
			t.Errorf("GoodSteps(%v): %v", c.l, got)
		}
	}
}

// Promise 3: blocks within loops within choices: ends, depths and targets written out.
func TestCodeNest(t *testing.T) {
	l := joined(
		[]impl.Step{step(impl.WGet, 0)},         // 0
		ops(impl.WIf, impl.WLoop, impl.WBlock),  // 1 to 3
		[]impl.Step{step(impl.WBr, 1)},          // 4
		ops(impl.WEnd, impl.WEnd, impl.WElse),   // 5 to 7
		ops(impl.WBlock),                        // 8
		[]impl.Step{step(impl.WTable, 2, 0, 1)}, // 9
		ops(impl.WEnd, impl.WEnd),               // 10, 11
		ops(impl.WLoop, impl.WEnd),              // 12, 13
	)
	wantEnds := []int{-1, 11, 6, 5, -1, 3, 2, 11, 10, -1, 8, 1, 13, 12}
	if got, ok := impl.EndsOf(l); !slices.Equal(got, wantEnds) || !ok {
		t.Errorf("EndsOf: %v %v", got, ok)
	}
	wantDepths := []int{0, 0, 1, 2, 3, 3, 2, 1, 1, 2, 2, 1, 0, 1}
	if got, ok := impl.DepthsOf(l); !slices.Equal(got, wantDepths) || !ok {
		t.Errorf("DepthsOf: %v %v", got, ok)
	}
	wantTargets := [][]int{{14}, {14}, {12, 14}, {3, 12, 14}, {6, 3, 12, 14}, {6, 3, 12, 14}, {3, 12, 14}, {12, 14}, {12, 14}, {11, 12, 14}, {11, 12, 14}, {12, 14}, {14}, {13, 14}}
	for at, targets := range wantTargets {
		for depth, want := range targets {
			if got, ok := impl.TargetOf(l, at, depth); got != want || !ok {
				t.Errorf("TargetOf(%d, %d): %d %v, not %d", at, depth, got, ok, want)
			}
		}
		for _, depth := range []int{math.MinInt, -1, len(targets), len(targets) + 1, math.MaxInt} {
			if got, ok := impl.TargetOf(l, at, depth); got != 0 || ok {
				t.Errorf("TargetOf(%d, %d): %d %v", at, depth, got, ok)
			}
		}
	}
	for _, at := range []int{math.MinInt, -2, -1, len(l), len(l) + 1, math.MaxInt} {
		for _, depth := range []int{-1, 0, 1} {
			if got, ok := impl.TargetOf(l, at, depth); got != 0 || ok {
				t.Errorf("TargetOf(%d, %d): %d %v", at, depth, got, ok)
			}
		}
	}
}

// Promises 3 and 19: no code has no ends, no depths, and no place to jump from.
func TestCodeOfNothing(t *testing.T) {
	for _, l := range [][]impl.Step{nil, {}} {
		if got, ok := impl.EndsOf(l); len(got) != 0 || !ok {
			t.Error(got, ok)
		}
		if got, ok := impl.DepthsOf(l); len(got) != 0 || !ok {
			t.Error(got, ok)
		}
		for at := -1; at <= 1; at++ {
			if got, ok := impl.TargetOf(l, at, 0); got != 0 || ok {
				t.Error(at, got, ok)
			}
		}
		if s, ok := impl.StepsBytes(l); s != "" || !ok || !impl.GoodSteps(l) {
			t.Error(s, ok)
		}
	}
	checkSteps(t, "", nil, 0)
}

func opensByHand(x impl.Step) bool { return x.Op == 15 || x.Op == 16 || x.Op == 17 }

// endByHand looks for the WEnd of what begins at a place, by counting; -1 if there is none.
func endByHand(l []impl.Step, at int) int {
	level := 0
	for i := at; i < len(l); i++ {
		if opensByHand(l[i]) {
			level++
		}
		if l[i].Op == 19 {
			level--
		}
		if level == 0 {
			return i
		}
	}
	return -1
}

// aroundByHand tells where those begin within which a place lies, the innermost one first; what has no WEnd is taken to go on for ever.
func aroundByHand(l []impl.Step, at int) []int {
	var out []int
	for i := at - 1; i >= 0; i-- {
		if !opensByHand(l[i]) {
			continue
		}
		if end := endByHand(l, i); end < 0 || end >= at {
			out = append(out, i)
		}
	}
	return out
}

// goodCodeByHand looks at each step for itself, from where it stands.
func goodCodeByHand(l []impl.Step) bool {
	var elses []int
	for at, x := range l {
		around := aroundByHand(l, at)
		far := max(0, x.N)
		if len(x.Table) > 0 {
			far = max(far, slices.Max(x.Table))
		}
		switch {
		case textByHand(x) == "":
			return false
		case opensByHand(x) && (len(around) >= 8 || endByHand(l, at) < 0):
			return false
		case x.Op == 19 && len(around) == 0:
			return false
		case x.Op >= 20 && far > len(around):
			return false
		case x.Op == 18:
			if len(around) == 0 || l[around[0]].Op != 17 || slices.Contains(elses, around[0]) {
				return false
			}
			elses = append(elses, around[0])
		}
	}
	return len(l) <= 60
}

func targetByHand(l []impl.Step, at int, depth int) int {
	around := aroundByHand(l, at)
	if depth == len(around) {
		return len(l)
	}
	if l[around[depth]].Op == 16 {
		return around[depth] + 1
	}
	return endByHand(l, around[depth]) + 1
}

func endsByHand(l []impl.Step) []int {
	out := make([]int, len(l))
	for at, x := range l {
		switch {
		case opensByHand(x):
			out[at] = endByHand(l, at)
		case x.Op == 18:
			out[at] = endByHand(l, aroundByHand(l, at)[0])
		case x.Op == 19:
			out[at] = aroundByHand(l, at)[0]
		default:
			out[at] = -1
		}
	}
	return out
}

// checkCode holds all that is told of code against what is worked out another way.
func checkCode(t *testing.T, l []impl.Step) bool {
	t.Helper()
	good := goodCodeByHand(l)
	if got := impl.GoodSteps(l); got != good {
		t.Errorf("GoodSteps(%v): %v", l, got)
	}
	if !good {
		checkNoCode(t, l)
		return false
	}
	ends, ok := impl.EndsOf(l)
	if !slices.Equal(ends, endsByHand(l)) || !ok {
		t.Errorf("EndsOf(%v): %v %v", l, ends, ok)
	}
	depths, ok := impl.DepthsOf(l)
	if len(depths) != len(l) || !ok {
		t.Fatalf("DepthsOf(%v): %v %v", l, depths, ok)
	}
	for at := range l {
		many := len(aroundByHand(l, at))
		if depths[at] != many {
			t.Errorf("DepthsOf(%v): %v", l, depths)
		}
		for depth := range many + 1 {
			if got, ok := impl.TargetOf(l, at, depth); got != targetByHand(l, at, depth) || !ok {
				t.Errorf("TargetOf(%v, %d, %d): %d %v", l, at, depth, got, ok)
			}
		}
		if got, ok := impl.TargetOf(l, at, many+1); got != 0 || ok {
			t.Errorf("TargetOf(%v, %d, %d): %d %v", l, at, many+1, got, ok)
		}
	}
	s, ok := impl.StepsBytes(l)
	if s != codeByHand(l) || !ok {
		t.Errorf("StepsBytes(%v): %x %v", l, s, ok)
	}
	if len(s) <= 400 {
		checkSteps(t, s, l, 0)
	}
	return true
}

// allOf tells all lists of so many of these steps at most.
func allOf(some []impl.Step, most int) [][]impl.Step {
	lists := [][]impl.Step{nil}
	from := lists
	for range most {
		var next [][]impl.Step
		for _, l := range from {
			for _, x := range some {
				next = append(next, append(slices.Clip(l), x))
			}
		}
		lists = append(lists, next...)
		from = next
	}
	return lists
}

// Promise 3: all short code out of the steps that make its shape.
func TestCodeAllShort(t *testing.T) {
	some := joined(ops(impl.WBlock, impl.WLoop, impl.WIf, impl.WElse, impl.WEnd, impl.WTrap), []impl.Step{step(impl.WBr, 0), step(impl.WBr, 1), step(impl.WTable, 0, 1)})
	good := 0
	for _, l := range allOf(some, 5) {
		if checkCode(t, l) {
			good++
		}
	}
	if good < 500 {
		t.Error("so few are good: ", good)
	}
}

// someSource tells numbers that look mixed, the same ones each time.
func someSource() func(int) int {
	state := uint64(88172645463325252)
	return func(below int) int {
		state ^= state << 13
		state ^= state >> 7
		state ^= state << 17
		return int(state % uint64(below))
	}
}

// Promise 3: long code, mostly good, of all steps.
func TestCodeMixed(t *testing.T) {
	pick := someSource()
	good := 0
	for range 3000 {
		l := mixedCode(pick)
		if pick(4) == 0 && len(l) > 0 {
			l[pick(len(l))].Op = 1 + pick(22)
		}
		if checkCode(t, l) {
			good++
		}
	}
	if good < 1500 {
		t.Error("so few are good: ", good)
	}
}

// mixedCode is good code, but that it may be too long.
func mixedCode(pick func(int) int) []impl.Step {
	var l []impl.Step
	var open []int
	for many := pick(62); len(l)+len(open) < many; {
		x := impl.Step{Op: 1 + pick(22)}
		switch _, most := wordOf(x.Op); {
		case opensByHand(x) && len(open) == 8, x.Op == 18 && (len(open) == 0 || open[len(open)-1] != 17), x.Op == 19 && len(open) == 0:
			continue
		case opensByHand(x):
			open = append(open, x.Op)
		case x.Op == 18:
			open[len(open)-1] = 18
		case x.Op == 19:
			open = open[:len(open)-1]
		case x.Op >= 20:
			x.N = pick(len(open) + 1)
			for many := pick(4); x.Op == 22 && len(x.Table) <= many; {
				x.Table = append(x.Table, pick(len(open)+1))
			}
		case most > 0:
			x.N = pick(most + 1)
		}
		l = append(l, x)
	}
	return joined(l, slices.Repeat(ops(impl.WEnd), len(open)))
}

// Promises 3 and 19: each code alone.
func TestCodeCodes(t *testing.T) {
	for _, c := range []struct {
		code  int
		texts []string
	}{
		{1, []string{
			"\x01", "\x02", "\x03", "\x14", "\x15", "\x16", "\x04\x01", "\x01\x80", "\x01\xff\xff\xff\xff", "\x14\x80\x80\x80",
			"\x16\x01", "\x16\x01\x00", "\x16\x00", "\x16\x02\x00", "\x16\x80", "\x16\x01\x80", "\x16\x01\x00\x80", "\x16\x04\x00\x00\x00\x00",
			"\x01\x80\x80\x80\x80\x80\x00", "\x02\x80\x80\x80\x80\x80\x00", "\x16\x01\x80\x80\x80\x80\x80\x00\x00", "\x16\x80\x80\x80\x80\x80\x00\x00",
			"\x01\xff\xff\xff\xff\x1f", "\x14\x80\x80\x80\x80\x10", "\x16\x01\x00\xff\xff\xff\xff\x1f", "\x16\x01\xff\xff\xff\xff\x1f\x00", "\x16\xff\xff\xff\xff\x1f",
			"\x16\x33" + strings.Repeat("\x00", 52), "\x16\xff\xff\xff\xff\x0f\x00", "\x0c\x0c\x0f\x13\x15",
		}},
		{2, []string{
			"\x00", "\x17", "\x80", "\xff", "\x0c\x00", "\x0c\x17", "\x01\x05\xff", "\x16\x01\x00\x00\x00", "\x0f\x13\x17", "\x16\x01\x00\x00\x80",
		}},
		{3, []string{
			"\x13", "\x12", "\x0f", "\x10", "\x11", "\x0f\x13\x13", "\x11\x12\x12\x13", "\x11\x0f\x12\x13\x13", "\x0f\x12\x13", "\x0f\x10\x13",
			"\x01\x80\x80\x04", "\x01\xff\xff\xff\xff\x0f", "\x02\x08", "\x03\x08", "\x03\x88\x00", "\x14\x01", "\x15\x01", "\x14\x09", "\x0f\x14\x02\x13",
			"\x16\x00\x00", "\x16\x01\x01\x00", "\x16\x01\x00\x01", "\x16\x05\x00\x00\x00\x00\x00\x00", "\x16\x32" + strings.Repeat("\x00", 51),
			strings.Repeat("\x0c", 61), strings.Repeat("\x0c", 400), strings.Repeat("\x0f", 9) + strings.Repeat("\x13", 9),
		}},
	} {
		for _, s := range c.texts {
			checkSteps(t, s, nil, c.code)
		}
	}
}

// Promises 3 and 19: of two faults the one that is met first from the front counts; 3 in the end.
func TestCodeTwoFaults(t *testing.T) {
	for _, c := range []struct {
		code int
		text string
	}{
		{1, "\x01\x80\x80\x80\x80\x80\x00"},
		{1, "\x01\xff\xff\xff\xff\x1f\x17"},
		{1, "\x14\x80\x80\x80\x80\x80\x00\x00\xff"},
		{1, "\x16\x33" + strings.Repeat("\x00", 52) + "\xff"},
		{2, "\x00\x01"},
		{2, "\x17\x01\x80"},
		{2, "\x0c\xff\x16\x01"},
		{1, "\x13\x01"},
		{2, "\x13\x17"},
		{1, "\x02\x08\x14"},
		{2, "\x02\x08\x00"},
		{1, "\x16\x00\x00\x16"},
		{2, "\x16\x05\x00\x00\x00\x00\x00\x00\x00"},
		{1, strings.Repeat("\x0c", 61) + "\x01"},
		{2, strings.Repeat("\x0c", 61) + "\x17"},
		{1, strings.Repeat("\x0f", 9) + "\x01"},
		{2, strings.Repeat("\x0c", 399) + "\x17"},
		{1, strings.Repeat("\x0c", 399) + "\x16"},
		{3, "\x13\x02\x08"},
	} {
		checkSteps(t, c.text, nil, c.code)
	}
}

// Promise 19: 400 bytes are read, whatever they tell; 401 are not, and tell no code.
func TestCodeLongTexts(t *testing.T) {
	for _, c := range []struct {
		code int
		one  string
	}{{1, "\x01\x80\x80\x80\x80\x80"}, {2, "\x00"}, {3, "\x13"}, {3, "\x01\x05"}} {
		s := strings.Repeat(c.one, 401)
		checkSteps(t, s[:400], nil, c.code)
		for _, long := range []string{s[:401], s} {
			if l, code, ok := impl.ReadSteps(long); len(l) != 0 || code != 0 || ok {
				t.Error(len(long), l, code, ok)
			}
		}
	}
}

// takeByHand tells the number ahead of a text, and what lies behind.
func takeByHand(s string) (int, string, bool) {
	d, ok := digits(s, 0)
	if !ok || worth(d, false) > impl.MaxU32 {
		return 0, "", false
	}
	return worth(d, false), s[len(d):], true
}

// stepsByHand reads bytes step by step; it tells a code where they are none.
func stepsByHand(s string) ([]impl.Step, int) {
	var out []impl.Step
	for s != "" {
		x, many, ok := impl.Step{Op: int(s[0])}, 0, true
		s = s[1:]
		switch x.Op {
		case 0:
			return nil, 2
		case 22:
			many, s, ok = takeByHand(s)
			if many > 50 {
				return nil, 1
			}
			fallthrough
		case 1, 2, 3, 20, 21:
			for i := 0; ok && i < many; i++ {
				var n int
				n, s, ok = takeByHand(s)
				x.Table = append(x.Table, n)
			}
			if ok {
				x.N, s, ok = takeByHand(s)
			}
			if !ok {
				return nil, 1
			}
		}
		if x.Op > 22 {
			return nil, 2
		}
		out = append(out, x)
	}
	if !goodCodeByHand(out) {
		return nil, 3
	}
	return out, 0
}

// Promises 3 and 19: code that is cut anywhere, or that has another byte anywhere, read another way too.
func TestCodeSpoiltBytes(t *testing.T) {
	texts := []string{
		codeByHand(everyOp()),
		codeByHand(blocks(8, step(impl.WTable, 8, 0, 8, 3, 4), step(impl.WConst, impl.WordMask), step(impl.WBr, 8))),
		"\x0f\x16\x82\x80\x00\x81\x00\x80\x80\x80\x80\x00\x81\x80\x80\x80\x00\x13\x01\xac\x82\x80\x80\x00",
	}
	for _, s := range texts {
		for at := range len(s) {
			want, code := stepsByHand(s[:at])
			checkSteps(t, s[:at], want, code)
			for b := range 256 {
				spoilt := s[:at] + string([]byte{byte(b)}) + s[at+1:]
				want, code := stepsByHand(spoilt)
				checkSteps(t, spoilt, want, code)
			}
		}
	}
}

// Promise 3: all texts of up to two bytes, read another way too.
func TestCodeAllShortTexts(t *testing.T) {
	for a := range 256 {
		first := string([]byte{byte(a)})
		want, code := stepsByHand(first)
		checkSteps(t, first, want, code)
		for b := range 256 {
			s := string([]byte{byte(a), byte(b)})
			want, code := stepsByHand(s)
			checkSteps(t, s, want, code)
		}
	}
}

// askAll asks every function of code, at good places and others.
func askAll(l []impl.Step) {
	impl.GoodSteps(l)
	impl.StepsBytes(l)
	impl.EndsOf(l)
	impl.DepthsOf(l)
	for at := -1; at <= len(l); at++ {
		for depth := -1; depth <= 9; depth++ {
			impl.TargetOf(l, at, depth)
		}
	}
	for _, x := range l {
		impl.StepText(x)
	}
}

// Promise 19: no list that is handed in is changed, nor what lies behind it, nor a Table.
func TestCodeListsStay(t *testing.T) {
	table := []int{0, 1, 99, 98, 97, 96}
	memory := append(everyOp(), blocks(1, impl.Step{Op: impl.WTable, N: 1, Table: table[:2]})...)
	memory = append(memory, impl.Step{Op: -5, N: -6, Table: []int{-7}}, step(99, 98, 97))
	before := copySteps(memory)
	for many := range len(memory) + 1 {
		askAll(memory[:many])
		askAll(memory[many:])
	}
	if !sameSteps(memory, before) || !slices.Equal(table, []int{0, 1, 99, 98, 97, 96}) {
		t.Error(memory, table)
	}
}

// Promise 19: what lies behind a list's length, or behind a Table's, tells nothing.
func TestCodeBehindLists(t *testing.T) {
	memory := append(blocks(2), step(99, 98, 97), impl.Step{Op: impl.WEnd})
	if l := memory[:4]; !impl.GoodSteps(l) || impl.GoodSteps(memory) || impl.GoodSteps(memory[:3]) {
		t.Error(memory)
	}
	table := []int{0, 0, 99, 0, 0, 0}
	x := impl.Step{Op: impl.WTable, Table: table[:2]}
	if s, ok := impl.StepText(x); s != "table 0 0 0" || !ok {
		t.Error(s, ok)
	}
	if s, ok := impl.StepsBytes([]impl.Step{x}); s != "\x16\x02\x00\x00\x00" || !ok {
		t.Errorf("%x %v", s, ok)
	}
	none := impl.Step{Op: impl.WAdd, Table: table[:0]}
	if s, ok := impl.StepText(none); s != "add" || !ok || !impl.GoodSteps([]impl.Step{none}) {
		t.Error(s, ok)
	}
	if x.Table = table[:0]; impl.GoodSteps([]impl.Step{x}) {
		t.Error("no Table")
	}
}

// spoilNumbers writes over a list, and over what lies behind it in its memory.
func spoilNumbers(l []int) {
	l = l[:cap(l)]
	for i := range l {
		l[i] = 77
	}
}

// Promise 19: an answer shares no memory with an argument, nor with another answer, and no two Tables of one share any.
func TestCodeAnswersAreNew(t *testing.T) {
	l := blocks(2, step(impl.WTable, 1, 0, 2), step(impl.WTable, 0, 1), step(impl.WTable, 2, 2, 1, 0, 2))
	before := copySteps(l)
	s, _ := impl.StepsBytes(l)
	for _, ask := range []func([]impl.Step) ([]int, bool){impl.EndsOf, impl.DepthsOf} {
		first, _ := ask(l)
		second, _ := ask(l)
		keep := slices.Clone(second)
		spoilNumbers(first)
		if third, _ := ask(l); !slices.Equal(second, keep) || !slices.Equal(third, keep) {
			t.Error(second, third)
		}
	}
	for k := 2; k <= 4; k++ {
		first, _, _ := impl.ReadSteps(s)
		second, _, _ := impl.ReadSteps(s)
		spoilNumbers(first[k].Table)
		for i := range first {
			if i != k && !sameStep(first[i], before[i]) {
				t.Error(i, first[i])
			}
		}
		first = first[:cap(first)]
		for i := range first {
			first[i] = step(99, 98, 97)
		}
		if !sameSteps(second, before) {
			t.Error(second)
		}
	}
	checkSteps(t, s, before, 0)
	if !sameSteps(l, before) {
		t.Error(l)
	}
}
