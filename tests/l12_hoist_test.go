package tests

import (
	"math"
	"slices"
	"testing"

	"loop.example/g00373/impl"
)

func pureByHand(x impl.Flat) bool {
	return goodFlatOf(x, 250) && (x.Op == 1 || x.Op == 2 || x.Op == 3 && x.Do != 7)
}

// stepAt is a place in a part.
type stepAt struct{ part, place int }

// unusedByHand tells all pure steps whose Dst nobody uses, and all Params that nobody uses but Args for them.
func unusedByHand(s impl.Ssa) ([]stepAt, []stepAt) {
	_, used := marksByHand(s)
	uses := map[int]int{}
	for _, u := range used {
		uses[u.value]++
	}
	var steps, params []stepAt
	for at, p := range s.Parts {
		for place, x := range p.Code {
			if pureByHand(x) && uses[x.Dst] == 0 {
				steps = append(steps, stepAt{at, place})
			}
		}
		for place, param := range p.Params {
			others := uses[param]
			for _, arg := range argsByHand(s, at, place) {
				if arg == param {
					others--
				}
			}
			if others == 0 {
				params = append(params, stepAt{at, place})
			}
		}
	}
	return steps, params
}

func withoutStep(s impl.Ssa, at stepAt) impl.Ssa {
	out := copySsa(s)
	code := &out.Parts[at.part].Code
	*code = slices.Delete(*code, at.place, at.place+1)
	return out
}

// withoutParam lets a Param go, with its Args: none of them stands anywhere else.
func withoutParam(s impl.Ssa, at stepAt) impl.Ssa {
	return lessByHand(s, at.part, at.place, s.Parts[at.part].Params[at.place])
}

func dropByHand(s impl.Ssa) (impl.Ssa, int) {
	for gone := 0; ; gone++ {
		steps, params := unusedByHand(s)
		switch {
		case len(steps) > 0:
			s = withoutStep(s, steps[0])
		case len(params) > 0:
			s = withoutParam(s, params[0])
		default:
			return s, gone
		}
	}
}

// dropAny lets any of those go that may, in any order.
func dropAny(s impl.Ssa, pick func(int) int) (impl.Ssa, int) {
	for gone := 0; ; gone++ {
		steps, params := unusedByHand(s)
		if len(steps)+len(params) == 0 {
			return s, gone
		}
		if k := pick(len(steps) + len(params)); k < len(steps) {
			s = withoutStep(s, steps[k])
		} else {
			s = withoutParam(s, params[k-len(steps)])
		}
	}
}

// handHoist knows the loops of an ssa, which stay as they are whatever is moved.
type handHoist struct {
	reducible bool
	loops     []impl.Loop
	innermost []int // by part, -1 for none
}

func hoistByHand(s impl.Ssa) handHoist {
	g := graphByHand(blocksIn(s))
	h := handHoist{reducible: reducibleByHand(g)}
	if !h.reducible {
		return h
	}
	h.loops = loopsByHand(g)
	for at := range s.Parts {
		h.innermost = append(h.innermost, leastByHand(h.loops, func(loop int) bool { return slices.Contains(h.loops[loop].Body, at) }))
	}
	return h
}

// aheadOf tells the parts from which one comes to a loop's Head from outside.
func (h handHoist) aheadOf(s impl.Ssa, loop impl.Loop) []int {
	var out []int
	for at, p := range s.Parts {
		if slices.Contains(p.Next, loop.Head) && !slices.Contains(loop.Body, at) {
			out = append(out, at)
		}
	}
	return out
}

// birthsIn tells for each value that comes to be the part in which it does.
func birthsIn(s impl.Ssa) map[int]int {
	out := map[int]int{}
	born, _ := marksByHand(s)
	for _, b := range born {
		out[b.value] = b.part
	}
	return out
}

// can tells the part to whose end a step may be moved; -1 for none.
func (h handHoist) can(s impl.Ssa, births map[int]int, at stepAt) int {
	x := s.Parts[at.part].Code[at.place]
	if h.innermost[at.part] < 0 || !pureByHand(x) {
		return -1
	}
	loop := h.loops[h.innermost[at.part]]
	uses, _ := usedByHand(x)
	for _, value := range uses {
		if part, is := births[value]; is && slices.Contains(loop.Body, part) {
			return -1
		}
	}
	ahead := h.aheadOf(s, loop)
	if len(ahead) != 1 || s.Parts[ahead[0]].Go != 1 || len(s.Parts[ahead[0]].Code) > 59 {
		return -1
	}
	return ahead[0]
}

// move is a step that was moved.
type move struct {
	x    impl.Flat
	from stepAt
	to   int
}

// once moves the first step that may be; it tells whether there is one.
func (h handHoist) once(s impl.Ssa) (impl.Ssa, move, bool) {
	births := birthsIn(s)
	for at, p := range s.Parts {
		for place, x := range p.Code {
			from := stepAt{at, place}
			if to := h.can(s, births, from); to >= 0 {
				out := withoutStep(s, from)
				out.Parts[to].Code = append(out.Parts[to].Code, x)
				return out, move{x, from, to}, true
			}
		}
	}
	return s, move{}, false
}

// foldByHand goes through the parts in their order, and knows the words of those that are FxConst.
func foldByHand(s impl.Ssa) (impl.Ssa, int) {
	out, folded := copySsa(s), 0
	known := map[int]int{}
	g := graphByHand(blocksIn(s))
	for _, at := range orderByHand(g, 0, make([]bool, len(g.Next))) {
		for i := range out.Parts[at].Code {
			x := &out.Parts[at].Code[i]
			a, isA := known[x.A]
			b, isB := known[x.B]
			if x.Op == 3 && isA && isB && wordByHand(x.Do, a, b) >= 0 {
				*x = impl.Flat{Op: 1, Dst: x.Dst, N: wordByHand(x.Do, a, b)}
				folded++
			}
			if x.Op == 1 {
				known[x.Dst] = x.N
			}
		}
	}
	return out, folded
}

// handWork is a run that counts FxTwo steps, one that traps, too.
type handWork struct {
	handFlow
	twos  int
	times []int // for each part how often it was begun
}

func workByHand(s impl.Ssa, state impl.State, fuel int) *handWork {
	r := &handWork{handFlow: handFlow{s: copyOfState(state), names: map[int]int{}, how: 3}, times: make([]int, len(s.Parts))}
	for value, word := range append(slices.Clone(state.Locals), 0, 0, 0, 0) {
		r.names[value] = word
	}
	at, handed := 0, []int(nil)
	for range fuel {
		p := s.Parts[at]
		r.times[at]++
		for i, value := range p.Params {
			r.names[value] = handed[i]
		}
		for _, x := range p.Code {
			if x.Op == 3 {
				r.twos++
			}
			if !r.plain(x) {
				r.how = 2
				return r
			}
		}
		if p.Go == 3 || p.Go == 4 {
			r.how = p.Go - 2
			return r
		}
		way, word := 0, r.names[p.Test]
		if p.Go == 2 && word == 0 {
			way = 1
		}
		if p.Go == 5 {
			way = min(word, len(p.Next)-1)
		}
		handed = nil
		for _, value := range p.Args[way] {
			handed = append(handed, r.names[value])
		}
		at = p.Next[way]
	}
	return r
}

// bettered is a good ssa, and what is made of it.
type bettered struct {
	s       impl.Ssa
	hand    handHoist
	dropped impl.Ssa
	gone    int
	hoisted impl.Ssa // s itself, where its shape is not reducible
	moves   []move
	folded  impl.Ssa
	made    int
}

func checkDrop(t *testing.T, s impl.Ssa) (impl.Ssa, int) {
	t.Helper()
	want, wantGone := dropByHand(s)
	got, gone, ok := impl.DropUnused(s)
	if !sameSsa(got, want) || gone != wantGone || !ok {
		t.Fatalf("DropUnused(%v): %v %d %v, not %v %d", s, got, gone, ok, want, wantGone)
	}
	if !impl.GoodSsa(got) || !goodSsaByHand(got) {
		t.Fatalf("DropUnused(%v): %v", s, got)
	}
	if again, n, ok := impl.DropUnused(got); !sameSsa(again, got) || n != 0 || !ok {
		t.Fatalf("DropUnused(%v): %v %d %v", got, again, n, ok)
	}
	return got, gone
}

func checkFold(t *testing.T, s impl.Ssa) (impl.Ssa, int) {
	t.Helper()
	want, wantMade := foldByHand(s)
	got, made, ok := impl.FoldSsa(s)
	if !sameSsa(got, want) || made != wantMade || !ok {
		t.Fatalf("FoldSsa(%v): %v %d %v, not %v %d", s, got, made, ok, want, wantMade)
	}
	if !impl.GoodSsa(got) || !goodSsaByHand(got) {
		t.Fatalf("FoldSsa(%v): %v", s, got)
	}
	if again, n, ok := impl.FoldSsa(got); !sameSsa(again, got) || n != 0 || !ok {
		t.Fatalf("FoldSsa(%v): %v %d %v", got, again, n, ok)
	}
	return got, made
}

// checkNoHoist looks for the zero answer of those that move steps.
func checkNoHoist(t *testing.T, s impl.Ssa) {
	t.Helper()
	if got, is, ok := impl.HoistOnce(s); len(got.Parts) != 0 || got.Values != 0 || is || ok {
		t.Errorf("HoistOnce(%v): %v %v %v", s, got, is, ok)
	}
	if got, n, ok := impl.HoistSsa(s); len(got.Parts) != 0 || got.Values != 0 || n != 0 || ok {
		t.Errorf("HoistSsa(%v): %v %d %v", s, got, n, ok)
	}
	for at := -1; at <= min(len(s.Parts), 13); at++ {
		for place := -1; place < 3; place++ {
			if to, can, ok := impl.CanHoist(s, at, place); to != 0 || can || ok {
				t.Errorf("CanHoist(%v, %d, %d): %d %v %v", s, at, place, to, can, ok)
			}
		}
	}
}

// checkCans holds CanHoist of each step against what is worked out by hand; it tells how many may be moved.
func checkCans(t *testing.T, h handHoist, s impl.Ssa) int {
	t.Helper()
	many, births := 0, birthsIn(s)
	for at, p := range s.Parts {
		for place := range p.Code {
			want := h.can(s, births, stepAt{at, place})
			wantCan := want >= 0
			if wantCan {
				many++
			}
			if to, can, ok := impl.CanHoist(s, at, place); to != max(want, 0) || can != wantCan || !ok {
				t.Fatalf("CanHoist(%v, %d, %d): %d %v %v, not %d", s, at, place, to, can, ok, want)
			}
		}
	}
	return many
}

// checkHoist goes step by step with HoistOnce, and then looks at HoistSsa; it tells all that was moved.
func checkHoist(t *testing.T, h handHoist, s impl.Ssa) (impl.Ssa, []move) {
	t.Helper()
	if !h.reducible {
		checkNoHoist(t, s)
		return s, nil
	}
	checkCans(t, h, s)
	var moves []move
	now := s
	for {
		want, m, wantIs := h.once(now)
		got, is, ok := impl.HoistOnce(now)
		if !sameSsa(got, want) || is != wantIs || !ok {
			t.Fatalf("HoistOnce(%v): %v %v %v, not %v %v", now, got, is, ok, want, wantIs)
		}
		if !is {
			break
		}
		if !impl.GoodSsa(got) {
			t.Fatalf("HoistOnce(%v): %v", now, got)
		}
		moves, now = append(moves, m), want
	}
	got, n, ok := impl.HoistSsa(s)
	if !sameSsa(got, now) || n != len(moves) || !ok {
		t.Fatalf("HoistSsa(%v): %v %d %v, not %v %d", s, got, n, ok, now, len(moves))
	}
	if !impl.GoodSsa(got) || !goodSsaByHand(got) || checkCans(t, h, got) != 0 {
		t.Fatalf("HoistSsa(%v): %v", s, got)
	}
	return got, moves
}

// checkBetter is promise 12 of a good ssa, but for runs; and it holds all that is told of it against what is worked out by hand.
func checkBetter(t *testing.T, s impl.Ssa) bettered {
	t.Helper()
	before := copySsa(s)
	x := bettered{s: s, hand: hoistByHand(s)}
	x.dropped, x.gone = checkDrop(t, s)
	x.folded, x.made = checkFold(t, s)
	x.hoisted, x.moves = checkHoist(t, x.hand, s)
	if !sameSsa(s, before) {
		t.Fatalf("%v was %v", s, before)
	}
	return x
}

// moved tells the values whose steps were moved.
func (x bettered) moved() []int {
	var out []int
	for _, m := range x.moves {
		out = append(out, m.x.Dst)
	}
	return out
}

// checkWork holds WorkDone against a run by hand.
func checkWork(t *testing.T, s impl.Ssa, state impl.State, fuel int) *handWork {
	t.Helper()
	r := workByHand(s, state, fuel)
	before, stateBefore := copySsa(s), copyOfState(state)
	want, wantOk := r.twos, r.how != 3
	if !wantOk {
		want = 0
	}
	if work, ok := impl.WorkDone(s, state, fuel); work != want || ok != wantOk {
		t.Fatalf("WorkDone(%v, %v, %d): %d %v, not %d %v", s, state, fuel, work, ok, want, wantOk)
	}
	if !sameSsa(s, before) || !sameStates(state, stateBefore) {
		t.Fatalf("%v %v were %v %v", s, state, before, stateBefore)
	}
	return r
}

// checkSameTold looks whether a run comes to the same, and to the same words but for those of some values. What is made has as many parts, and they are begun alike: so it does with any fuel.
func checkSameTold(t *testing.T, s impl.Ssa, made impl.Ssa, but []int, state impl.State, fuel int) {
	t.Helper()
	want, wantHow, wantBegun, _ := impl.RunSsa(s, state, fuel)
	got, how, begun, ok := impl.RunSsa(made, state, fuel)
	if !sameStates(got, want) || how != wantHow || begun != wantBegun || !ok {
		t.Fatalf("RunSsa(%v, %v, %d): %v %d %d %v, but that of %v: %v %d %d", made, state, fuel, got, how, begun, ok, s, want, wantHow, wantBegun)
	}
	words, last, _ := impl.TraceSsa(s, state, fuel)
	now, then, ok := impl.TraceSsa(made, state, fuel)
	if last != then || len(now) != len(words) || !ok {
		t.Fatalf("TraceSsa(%v, %v, %d): %v %d %v, but that of %v: %v %d", made, state, fuel, now, then, ok, s, words, last)
	}
	for value, word := range words {
		if now[value] != word && !slices.Contains(but, value) {
			t.Fatalf("TraceSsa(%v, %v, %d): %d is %d, but by %v it is %d", made, state, fuel, value, now[value], s, word)
		}
	}
}

// checkMoments looks, behind each part that is begun, at the words of all values that are there: what was moved has the word then that it had before.
func (x bettered) checkMoments(t *testing.T, state impl.State, fuel int) {
	t.Helper()
	defs := defsByHand(x.s)
	dominators := dominatorsByHand(graphByHand(blocksIn(x.s)))
	for now := range fuel + 1 {
		words, last, _ := impl.TraceSsa(x.s, state, now)
		moved, _, _ := impl.TraceSsa(x.hoisted, state, now)
		if _, how, begun, _ := impl.RunSsa(x.s, state, now); how == impl.OutTrap || begun < now {
			return
		}
		for value, word := range words {
			isThere := last >= 0 && defs[value] >= 0 && slices.Contains(dominators[last], defs[value])
			if isThere && moved[value] != word {
				t.Fatalf("TraceSsa(%v, %v, %d): %d is %d, but by %v it is %d", x.hoisted, state, now, value, moved[value], x.s, word)
			}
		}
	}
}

// droppedValues tells those that come to be in an ssa, and not in what is made of it.
func droppedValues(s impl.Ssa, made impl.Ssa) []int {
	var out []int
	now := defsByHand(made)
	for value, def := range defsByHand(s) {
		if def >= 0 && now[value] < 0 {
			out = append(out, value)
		}
	}
	return out
}

// checkLessWork looks how many FxTwo steps are done, of what is made, and of what it is made of; it tells how many fewer behind HoistSsa (below 0: more), where the run is over. By as many as the part to which a FxTwo is moved is begun less often than that from which it is.
func (x bettered) checkLessWork(t *testing.T, state impl.State, fuel int) (int, bool) {
	t.Helper()
	r := checkWork(t, x.s, state, fuel)
	dropped, folded, hoisted := checkWork(t, x.dropped, state, fuel), checkWork(t, x.folded, state, fuel), checkWork(t, x.hoisted, state, fuel)
	if dropped.twos > r.twos || folded.twos > r.twos {
		t.Fatalf("WorkDone(%v, %v, %d): %d, then %d and %d", x.s, state, fuel, r.twos, dropped.twos, folded.twos)
	}
	if r.how == impl.OutFuel {
		return 0, false
	}
	if r.how == impl.OutEnd {
		fewer := 0
		for _, m := range x.moves {
			if m.x.Op == impl.FxTwo {
				fewer += r.times[m.from.part] - r.times[m.to]
			}
		}
		if r.twos-hoisted.twos != fewer {
			t.Fatalf("WorkDone(%v, %v, %d): %d, then %d, by %v", x.s, state, fuel, r.twos, hoisted.twos, x.moves)
		}
	}
	return r.twos - hoisted.twos, true
}

// checkRuns is promise 12 of a run; it tells how many FxTwo fewer are done behind HoistSsa, and whether the run is over.
func (x bettered) checkRuns(t *testing.T, state impl.State, fuel int) (int, bool) {
	t.Helper()
	gone := droppedValues(x.s, x.dropped)
	checkSameTold(t, x.s, x.dropped, gone, state, fuel)
	checkSameTold(t, x.s, x.folded, nil, state, fuel)
	checkSameTold(t, x.s, x.hoisted, x.moved(), state, fuel)
	if words, _, _ := impl.TraceSsa(x.dropped, state, fuel); slices.ContainsFunc(gone, func(value int) bool { return words[value] != -1 }) {
		t.Fatalf("TraceSsa(%v, %v, %d): %v, but %v are no more", x.dropped, state, fuel, words, gone)
	}
	if len(x.moves) > 0 {
		x.checkMoments(t, state, min(fuel, 8))
	}
	return x.checkLessWork(t, state, fuel)
}

// checkNoBetter looks for the zero answer of every function that takes an ssa.
func checkNoBetter(t *testing.T, s impl.Ssa) {
	t.Helper()
	before := copySsa(s)
	if got, n, ok := impl.DropUnused(s); len(got.Parts) != 0 || got.Values != 0 || n != 0 || ok {
		t.Errorf("DropUnused(%v): %v %d %v", s, got, n, ok)
	}
	if got, n, ok := impl.FoldSsa(s); len(got.Parts) != 0 || got.Values != 0 || n != 0 || ok {
		t.Errorf("FoldSsa(%v): %v %d %v", s, got, n, ok)
	}
	checkNoHoist(t, s)
	for _, fuel := range []int{math.MinInt, -1, 0, 1, 2000, 2001, math.MaxInt} {
		checkNoWork(t, s, stateOf(1, 2), fuel)
	}
	checkNoWork(t, s, impl.State{}, 5)
	if !sameSsa(s, before) {
		t.Errorf("%v was %v", s, before)
	}
}

func checkNoWork(t *testing.T, s impl.Ssa, state impl.State, fuel int) {
	t.Helper()
	before := copyOfState(state)
	if work, ok := impl.WorkDone(s, state, fuel); work != 0 || ok {
		t.Errorf("WorkDone(%v, %v, %d): %d %v", s, state, fuel, work, ok)
	}
	if !sameStates(state, before) {
		t.Errorf("%v was %v", state, before)
	}
}

// Promise 12: each Op, and each Do of FxTwo.
func TestHoistPure(t *testing.T) {
	for op := -2; op < 30; op++ {
		x := impl.Flat{Op: op}
		if op == impl.FxTwo {
			x.Do = impl.WAdd
		}
		if is := impl.IsPure(x); is != (op >= 1 && op <= 3) {
			t.Errorf("IsPure(%v): %v", x, is)
		}
	}
	for do := -2; do < 30; do++ {
		x := impl.Flat{Op: impl.FxTwo, Do: do, Dst: 14, A: 12, B: 13}
		if is := impl.IsPure(x); is != (do >= 4 && do <= 9 && do != 7) {
			t.Errorf("IsPure(%v): %v", x, is)
		}
	}
	for _, n := range []int{math.MinInt, math.MinInt32, math.MaxInt32, math.MaxInt} {
		for _, x := range []impl.Flat{{Op: n}, {Op: impl.FxTwo, Do: n}, {Op: n, Do: n, Dst: n, A: n, B: n, N: n}} {
			if impl.IsPure(x) {
				t.Errorf("IsPure(%v): true", x)
			}
		}
	}
}

// Promises 12 and 19: names and words at their ends and beyond, at fields that a step uses and at those that it does not.
func TestHoistPureFields(t *testing.T) {
	some := []int{math.MinInt, math.MinInt + 1, -65536, -250, -1, 0, 1, 4, 7, 9, 11, 12, 248, 249, 250, 251, 65534, 65535, 65536, math.MaxInt - 1, math.MaxInt}
	fits := map[int][5]int{ // by Op: how great Do, Dst, A, B and N may be
		impl.FxConst: {0, 249, 0, 0, 65535},
		impl.FxCopy:  {0, 249, 249, 0, 0},
		impl.FxTwo:   {9, 249, 249, 249, 0},
	}
	yes, no := 0, 0
	for op, most := range fits {
		for field := range 5 {
			for _, n := range some {
				for _, name := range []int{0, 12, 249} {
					x := impl.Flat{Op: op}
					for i, f := range fieldsOf(&x) {
						if most[i] == 249 {
							*f = name
						}
					}
					if op == impl.FxTwo {
						x.Do = impl.WMul
					}
					*fieldsOf(&x)[field] = n
					want := n >= 0 && n <= most[field]
					if op == impl.FxTwo && field == 0 {
						want = n == 4 || n == 9
					}
					if is := impl.IsPure(x); is != want || is != pureByHand(x) {
						t.Errorf("IsPure(%v): %v", x, is)
					}
					if want {
						yes++
					} else {
						no++
					}
				}
			}
		}
	}
	if yes < 200 || no < 400 {
		t.Error(yes, no)
	}
}

// Promises 12 and 19: any numbers at all, mostly of those that fit.
func TestHoistPureAnything(t *testing.T) {
	pick := someSource()
	some := []int{math.MinInt, -1, 0, 0, 0, 0, 0, 1, 4, 5, 6, 7, 8, 9, 12, 249, 250, 65535, 65536, math.MaxInt}
	yes, no := 0, 0
	for range 200000 {
		x := impl.Flat{Op: pick(8)}
		for _, f := range fieldsOf(&x) {
			*f = some[pick(len(some))]
		}
		is := impl.IsPure(x)
		if is != pureByHand(x) {
			t.Fatalf("IsPure(%v): %v", x, is)
		}
		if is {
			yes++
		} else {
			no++
		}
	}
	if yes < 500 || no < 1000 {
		t.Error(yes, no)
	}
}

// dropCase is an ssa, and what is left of it.
type dropCase struct {
	values int
	text   string
	left   string
	gone   int
}

func checkDropCases(t *testing.T, cases []dropCase) {
	t.Helper()
	for _, c := range cases {
		s := ssa(c.values, c.text)
		if !impl.GoodSsa(s) {
			t.Fatal(c.text)
		}
		x := checkBetter(t, s)
		if !sameSsa(x.dropped, ssa(c.values, c.left)) || x.gone != c.gone {
			t.Errorf("%s: %v %d, not %s %d", c.text, x.dropped, x.gone, c.left, c.gone)
		}
		for a := range 3 {
			for fuel := range 8 {
				x.checkRuns(t, stateOf(a, 2), fuel)
			}
		}
	}
}

// Promise 12: steps that nobody uses.
func TestHoistDropSteps(t *testing.T) {
	checkDropCases(t, []dropCase{
		{12, "end 0 1 2", "end 0 1 2", 0},
		{12, "trap", "trap", 0},
		{13, "const 12 5, trap", "trap", 1},
		{13, "copy 12 5, trap", "trap", 1},
		{13, "add 12 5 5, trap", "trap", 1},
		{17, "add 12 0 1, sub 13 0 1, mul 14 0 1, less 15 0 1, eq 16 0 1, end 0 1 2", "end 0 1 2", 5},
		// what is used
		{13, "const 12 5, out 12, trap", "const 12 5, out 12, trap", 0},
		{13, "const 12 5, store 12 0, trap", "const 12 5, store 12 0, trap", 0},
		{13, "const 12 5, store 0 12, trap", "const 12 5, store 0 12, trap", 0},
		{13, "const 12 5, if 12 1 2; trap; end 0 1 2", "const 12 5, if 12 1 2; trap; end 0 1 2", 0},
		{13, "const 12 5, table 12 1 2 2; trap; end 0 1 2", "const 12 5, table 12 1 2 2; trap; end 0 1 2", 0},
		{13, "const 12 5, end 0 1 12", "const 12 5, end 0 1 12", 0},
		{13, "const 12 5, to 1; end 12 0 1", "const 12 5, to 1; end 12 0 1", 0},
		{14, "const 12 5, to 1(12); with 13, out 13, trap", "const 12 5, to 1(12); with 13, out 13, trap", 0},
		// those that are not pure stay, and what they use
		{13, "load 12 0, trap", "load 12 0, trap", 0},
		{13, "div 12 0 1, trap", "div 12 0 1, trap", 0},
		{14, "const 12 1, div 13 12 12, trap", "const 12 1, div 13 12 12, trap", 0},
		{15, "const 12 1, const 13 2, div 14 12 13, trap", "const 12 1, const 13 2, div 14 12 13, trap", 0},
		{14, "copy 12 1, load 13 12, end 0 1 2", "copy 12 1, load 13 12, end 0 1 2", 0},
		{14, "load 12 1, copy 13 12, end 0 1 2", "load 12 1, end 0 1 2", 1},
		{14, "div 12 1 1, add 13 12 12, end 0 1 2", "div 12 1 1, end 0 1 2", 1},
		// what only a dropped step used, on and on
		{14, "const 12 1, copy 13 12, trap", "trap", 2},
		{16, "const 12 1, add 13 12 12, mul 14 13 12, copy 15 14, trap", "trap", 4},
		{16, "const 12 1, add 13 12 12, mul 14 13 12, copy 15 14, out 13, trap", "const 12 1, add 13 12 12, out 13, trap", 2},
		{15, "const 12 1, const 13 2, add 14 12 13, out 12, trap", "const 12 1, out 12, trap", 2},
		{15, "const 12 1, to 1; copy 13 12, to 2; copy 14 13, trap", "to 1; to 2; trap", 3},
		{15, "const 14 1, to 2; copy 12 13, trap; copy 13 14, to 1", "to 2; trap; to 1", 3},
		{15, "out 0, const 12 1, out 1, const 13 1, out 2, copy 14 12, out 3, trap", "out 0, out 1, out 2, out 3, trap", 3},
	})
}

// Promise 12: Params that nobody uses but Args for them.
func TestHoistDropParams(t *testing.T) {
	checkDropCases(t, []dropCase{
		{13, "to 1(3); with 12, trap", "to 1; trap", 1},
		{13, "to 1(3); with 12, end 12 0 0", "to 1(3); with 12, end 12 0 0", 0},
		{13, "to 1(3); with 12, out 12, trap", "to 1(3); with 12, out 12, trap", 0},
		{13, "if 0 1(3) 1(4); with 12, trap", "if 0 1 1; trap", 1},
		{13, "table 0 1(3) 1(4) 2 1(5); with 12, trap; trap", "table 0 1 1 2 1; trap; trap", 1},
		{15, "to 1(3 4 5); with 12 13 14, out 13, trap", "to 1(4); with 13, out 13, trap", 2},
		{15, "to 1(3 4 5); with 12 13 14, out 14, out 12, trap", "to 1(3 5); with 12 14, out 14, out 12, trap", 1},
		// its own Args alone use it, round a loop
		{13, "to 1(3); with 12, if 0 1(12) 2; trap", "to 1; if 0 1 2; trap", 1},
		{13, "to 1(3); with 12, if 0 1(12) 1(12)", "to 1; if 0 1 1", 1},
		{14, "to 1(3 4); with 12 13, if 0 1(12 13) 2; trap", "to 1; if 0 1 2; trap", 2},
		{13, "to 1(3); with 12, if 12 1(12) 2; trap", "to 1(3); with 12, if 12 1(12) 2; trap", 0},
		{13, "to 1(3); with 12, if 0 1(12) 2; end 0 0 12", "to 1(3); with 12, if 0 1(12) 2; end 0 0 12", 0},
		{13, "to 1(3); with 12, to 2; out 12, to 3; if 0 1(12) 4; trap", "to 1(3); with 12, to 2; out 12, to 3; if 0 1(12) 4; trap", 0},
		{13, "to 1(3); with 12, to 2; to 3; if 0 1(12) 4; trap", "to 1; to 2; to 3; if 0 1 4; trap", 1},
		// each one's Args use the other one: neither goes
		{14, "to 1(3 4); with 12 13, if 0 1(13 12) 2; trap", "to 1(3 4); with 12 13, if 0 1(13 12) 2; trap", 0},
		{15, "to 1(3 4 5); with 12 13 14, if 0 1(13 14 12) 2; trap", "to 1(3 4 5); with 12 13 14, if 0 1(13 14 12) 2; trap", 0},
		{14, "to 1(3); with 12, to 2(12); with 13, if 0 1(13) 3; trap", "to 1(3); with 12, to 2(12); with 13, if 0 1(13) 3; trap", 0},
		{15, "to 1(3 4 5); with 12 13 14, if 0 1(13 12 14) 2; trap", "to 1(3 4); with 12 13, if 0 1(13 12) 2; trap", 1},
		// one goes when another one has
		{14, "to 1(3 4); with 12 13, if 0 1(12 12) 2; trap", "to 1; if 0 1 2; trap", 2},
		{14, "to 1(3 4); with 12 13, if 0 1(13 13) 2; trap", "to 1; if 0 1 2; trap", 2},
		{14, "to 1(3); with 12, to 2(12); with 13, trap", "to 1; to 2; trap", 2},
		{15, "to 1(3); with 12, to 2(12); with 13, to 3(13); with 14, trap", "to 1; to 2; to 3; trap", 3},
		// steps and Params
		{14, "const 12 5, to 1(12); with 13, trap", "to 1; trap", 2},
		{14, "load 12 5, to 1(12); with 13, trap", "load 12 5, to 1; trap", 1},
		{14, "to 1(3); with 12, copy 13 12, trap", "to 1; trap", 2},
		{15, "const 12 5, to 1(12); with 13, copy 14 13, trap", "to 1; trap", 3},
		{14, "to 1(3); with 12, copy 13 12, if 0 1(12) 2; trap", "to 1; if 0 1 2; trap", 2},
		{16, "const 12 5, const 13 6, if 0 1(12) 1(13); with 14, copy 15 14, to 2; trap", "if 0 1 1; to 2; trap", 4},
		// a step that only its Param's Args use, and that uses the Param
		{14, "to 1(3); with 12, add 13 12 1, if 0 1(13) 2; trap", "to 1(3); with 12, add 13 12 1, if 0 1(13) 2; trap", 0},
		{14, "to 1(3); with 12, copy 13 12, if 0 1(13) 2; trap", "to 1(3); with 12, copy 13 12, if 0 1(13) 2; trap", 0},
	})
}

// Promise 12: the first pure step, part by part, goes ahead of any Param; in whatever order they go, the same is left, and as many go.
func TestHoistDropAnyOrder(t *testing.T) {
	s := ssa(19, "const 12 5, to 1(12 3); with 13 14, copy 15 13, to 2(15); with 16, copy 17 16, const 18 2, if 0 1(13 14) 3; trap")
	steps, params := unusedByHand(s)
	if !slices.Equal(steps, []stepAt{{2, 0}, {2, 1}}) || !slices.Equal(params, []stepAt{{1, 1}}) {
		t.Error(steps, params)
	}
	pick := someSource()
	for range 300 {
		s := s
		if pick(10) > 0 {
			s = grownSsa(pick)
		}
		want, wantGone := dropAny(s, pick)
		if got, gone, ok := impl.DropUnused(s); !sameSsa(got, want) || gone != wantGone || !ok {
			t.Fatalf("DropUnused(%v): %v %d %v, not %v %d", s, got, gone, ok, want, wantGone)
		}
	}
}

// canCase is an ssa, and for each part the answers of CanHoist for its steps: the part to whose end a step may be moved, or -1.
type canCase struct {
	values int
	text   string
	to     [][]int
}

func checkCanCases(t *testing.T, cases []canCase) {
	t.Helper()
	for _, c := range cases {
		s := ssa(c.values, c.text)
		if !impl.GoodSsa(s) || len(c.to) != len(s.Parts) {
			t.Fatal(c.text)
		}
		for at, p := range s.Parts {
			if len(c.to[at]) != len(p.Code) {
				t.Fatal(c.text, at)
			}
			for place, want := range c.to[at] {
				if to, can, ok := impl.CanHoist(s, at, place); to != max(want, 0) || can != (want >= 0) || !ok {
					t.Errorf("%s: CanHoist %d %d: %d %v %v, not %d", c.text, at, place, to, can, ok, want)
				}
			}
		}
		x := checkBetter(t, s)
		for a := range 3 {
			for fuel := range 10 {
				x.checkRuns(t, stateOf(a, 2), fuel)
			}
		}
	}
}

// Promise 12: which steps may be moved: pure ones, in a loop.
func TestHoistCan(t *testing.T) {
	checkCanCases(t, []canCase{
		{13, "to 1; mul 12 1 1, if 0 1 2; trap", [][]int{nil, {0}, nil}},
		{17, "to 1; add 12 1 1, sub 13 1 2, mul 14 1 8, less 15 9 1, eq 16 1 0, to 1", [][]int{nil, {0, 0, 0, 0, 0}}},
		{14, "to 1; const 12 0, copy 13 0, if 0 1 2; trap", [][]int{nil, {0, 0}, nil}},
		// not pure
		{14, "to 1; div 12 1 1, load 13 1, store 1 2, out 1, if 0 1 2; trap", [][]int{nil, {-1, -1, -1, -1}, nil}},
		{16, "const 14 3, const 15 1, to 1; div 12 14 15, load 13 14, if 0 1 2; trap", [][]int{{-1, -1}, {-1, -1}, nil}},
		// in no loop
		{13, "const 12 1, trap", [][]int{{-1}}},
		{15, "const 12 1, to 1; const 13 1, if 0 2 2; const 14 1, end 0 1 2", [][]int{{-1}, {-1}, {-1}}},
		{15, "const 12 1, to 1; const 13 1, if 0 1 2; const 14 1, trap", [][]int{{-1}, {0}, {-1}}},
		// a part of the loop that is not begun each time round, and one that leads out of it
		{15, "to 1; if 0 2 3; const 12 1, to 4; const 13 1, to 4; const 14 1, if 1 1 5; trap", [][]int{nil, nil, {0}, {0}, {0}, nil}},
		{14, "to 1; if 0 2 3; const 12 1, to 1; const 13 1, trap", [][]int{nil, nil, {0}, {-1}}},
		// more back edges than one
		{15, "to 1; const 12 1, if 0 2 3; const 13 1, to 1; const 14 1, if 0 1 4; trap", [][]int{nil, {0}, {0}, {0}, nil}},
		{13, "to 1; const 12 1, if 0 1 1", [][]int{nil, {0}}},
		{13, "to 1; const 12 1, table 0 1 1 2 1; trap", [][]int{nil, {0}, nil}},
	})
}

// Promise 12: what a step uses comes to be in no part of the loop.
func TestHoistCanUses(t *testing.T) {
	checkCanCases(t, []canCase{
		// there at first
		{14, "to 1; copy 12 0, copy 13 11, to 1", [][]int{nil, {0, 0}}},
		// a step ahead of the loop
		{14, "const 12 1, to 1; add 13 12 12, if 0 1 2; trap", [][]int{{-1}, {0}, nil}},
		{15, "load 12 1, to 1; copy 13 12, to 2; copy 14 12, if 0 2 3; trap", [][]int{{-1}, {-1}, {1}, nil}},
		// a Param ahead of the loop
		{14, "to 1(3); with 12, to 2; add 13 12 1, if 0 2 3; trap", [][]int{nil, nil, {1}, nil}},
		// a Param of the Head
		{14, "to 1(3); with 12, add 13 12 1, if 0 1(12) 2; trap", [][]int{nil, {-1}, nil}},
		{14, "to 1(3); with 12, add 13 1 12, if 0 1(12) 2; trap", [][]int{nil, {-1}, nil}},
		{14, "to 1(3); with 12, copy 13 12, if 0 1(12) 2; trap", [][]int{nil, {-1}, nil}},
		// a Param of another part of the loop
		{14, "to 1; to 2(3); with 12, copy 13 12, if 0 1 3; trap", [][]int{nil, nil, {-1}, nil}},
		// a step of the loop, in its own part or in another one
		{14, "to 1; const 12 1, copy 13 12, if 0 1 2; trap", [][]int{nil, {0, -1}, nil}},
		{14, "to 1; load 12 1, add 13 12 12, if 0 1 2; trap", [][]int{nil, {-1, -1}, nil}},
		{14, "to 1; load 12 1, to 2; add 13 1 12, if 0 1 3; trap", [][]int{nil, {-1}, {-1}, nil}},
		{14, "to 1; load 12 1, to 2; add 13 12 1, if 0 1 3; trap", [][]int{nil, {-1}, {-1}, nil}},
		{14, "to 2; copy 13 12, if 0 2 3; load 12 1, to 1; trap", [][]int{nil, {-1}, {-1}, nil}},
		// a part behind the loop uses what comes to be in it
		{14, "to 1; load 12 1, if 0 1 2; copy 13 12, trap", [][]int{nil, {-1}, {-1}}},
	})
}

// Promise 12: of a loop within a loop the innermost one is looked at.
func TestHoistCanWithin(t *testing.T) {
	checkCanCases(t, []canCase{
		{14, "to 1(3); with 12, to 2; add 13 12 1, if 0 2 3; if 0 1(13) 4; trap", [][]int{nil, nil, {1}, nil, nil}},
		{16, "to 1(3); with 12, const 15 1, to 2; add 13 12 1, if 0 2 3; add 14 1 1, if 0 1(13) 4; trap", [][]int{nil, {0}, {1}, {0}, nil}},
		{15, "to 1; load 12 1, to 2; copy 13 12, copy 14 1, if 0 2 3; if 0 1 4; trap", [][]int{nil, {-1}, {1, 1}, nil, nil}},
		// the inner loop may be come to from two parts: none may be moved, though there is one ahead of the outer one
		{13, "to 1; if 0 2 3; to 4; to 4; const 12 1, if 0 4 5; if 0 1 6; trap", [][]int{nil, nil, nil, nil, {-1}, nil, nil}},
		// three loops
		{16, "const 12 1, to 1; to 2; to 3; copy 13 12, if 0 3 4; copy 14 12, if 0 2 5; copy 15 12, if 0 1 6; trap", [][]int{{-1}, nil, nil, {2}, {1}, {0}, nil}},
		// one behind the other
		{14, "to 1; const 12 1, if 0 1 2; to 3; const 13 1, if 0 3 4; trap", [][]int{nil, {0}, nil, {2}, nil}},
		// the part that leads to the inner Head is the outer Head, and leads elsewhere, too
		{13, "to 1; if 0 2 3; const 12 1, if 0 2 3; if 0 1 4; trap", [][]int{nil, nil, {-1}, nil, nil}},
	})
}

// Promise 12: one part alone leads to the Head from outside, by GoTo, and has fewer than 60 steps.
func TestHoistCanAhead(t *testing.T) {
	checkCanCases(t, []canCase{
		{13, "if 0 1 2; to 3; to 3; const 12 1, if 0 3 4; trap", [][]int{nil, nil, nil, {-1}, nil}},
		{13, "if 0 1 2; to 2; const 12 1, if 0 2 3; trap", [][]int{nil, nil, {-1}, nil}},
		{13, "if 0 1 2; const 12 1, if 0 1 2; trap", [][]int{nil, {-1}, nil}},
		{13, "if 0 2 1; const 12 1, if 0 1 2; trap", [][]int{nil, {-1}, nil}},
		{13, "if 0 1 1; const 12 1, if 0 1 2; trap", [][]int{nil, {-1}, nil}},
		{13, "table 0 1 2 2; const 12 1, if 0 1 2; trap", [][]int{nil, {-1}, nil}},
		{13, "table 0 1 1 1; const 12 1, if 0 1 2; trap", [][]int{nil, {-1}, nil}},
		{13, "if 0 3 2; const 12 1, if 0 1 2; trap; to 1", [][]int{nil, {3}, nil, nil}},
		{13, "to 4; if 0 2 3; const 12 1, to 1; trap; to 1", [][]int{nil, nil, {4}, nil, nil}},
	})
	for many := 57; many <= 60; many++ {
		s := ssa(14, "to 1; const 12 1, to 2; const 13 1, if 0 1 3; trap")
		for range many {
			s.Parts[0].Code = append(s.Parts[0].Code, impl.Flat{Op: impl.FxOut, A: 1})
		}
		for _, at := range []stepAt{{1, 0}, {2, 0}} {
			if to, can, ok := impl.CanHoist(s, at.part, at.place); to != 0 || can != (many < 60) || !ok {
				t.Error(many, at, to, can, ok)
			}
		}
		x := checkBetter(t, s)
		if want := min(60-many, 2); len(x.moves) != want || len(x.hoisted.Parts[0].Code) != min(many+2, 60) {
			t.Error(many, x.moves)
		}
		if len(x.moves) == 1 && x.moves[0].from != (stepAt{1, 0}) {
			t.Error(x.moves)
		}
	}
	// a part of 60 steps from which steps go
	s := ssa(72, "to 1; if 0 1 2; trap")
	for i := range 60 {
		s.Parts[1].Code = append(s.Parts[1].Code, impl.Flat{Op: impl.FxConst, Dst: 12 + i, N: i})
	}
	if x := checkBetter(t, s); len(x.moves) != 60 || len(x.hoisted.Parts[1].Code) != 0 || !slices.Equal(x.hoisted.Parts[0].Code, s.Parts[1].Code) {
		t.Error(x.hoisted)
	}
}

// Promises 12 and 19: a shape that is not reducible, wherever the steps are.
func TestHoistNotReducible(t *testing.T) {
	for _, text := range []string{
		"if 0 1 2; const 12 1, to 2; to 1",
		"if 0 1 2; to 2; if 0 1 3; const 12 1, trap",
		"if 0 1 2; to 2; to 1",
		"const 12 1, if 0 1 2; to 2; to 1",
		"to 1; const 12 1, if 0 1 2; if 0 3 4; to 4; if 0 3 5; trap",
		"table 0 1 2 3; to 2; to 3; const 12 1, to 1",
	} {
		s := ssa(13, text)
		x := checkBetter(t, s)
		if !impl.GoodSsa(s) || x.hand.reducible {
			t.Fatal(text)
		}
		before := copySsa(s)
		checkNoHoist(t, s)
		if !sameSsa(s, before) {
			t.Error(s, before)
		}
		for a := range 3 {
			x.checkRuns(t, stateOf(a, 2), 6)
		}
	}
	// those that do not move steps do what they do
	s := ssa(16, "const 12 2, const 13 3, if 0 1 2; add 14 12 13, to 2; mul 15 12 12, out 15, to 1")
	x := checkBetter(t, s)
	if x.gone != 2 || x.made != 2 || x.hand.reducible {
		t.Error(x.dropped, x.gone, x.folded, x.made)
	}
}

// Promise 19: parts and steps that there are not.
func TestHoistCanWrong(t *testing.T) {
	some := []int{math.MinInt, math.MinInt + 1, -1 << 32, -2, -1, 0, 1, 2, 3, 4, 5, 11, 60, 1 << 32, math.MaxInt - 1, math.MaxInt}
	s := ssa(15, "out 1, to 1; const 12 1, const 13 1, if 0 1 2; const 14 1, out 1, out 1, trap")
	before := copySsa(s)
	is := 0
	for _, at := range some {
		for _, place := range some {
			to, can, ok := impl.CanHoist(s, at, place)
			wantOk := at >= 0 && at < 3 && place >= 0 && place < at+1
			want := wantOk && at == 1
			if to != 0 || can != want || ok != wantOk {
				t.Errorf("CanHoist %d %d: %d %v %v", at, place, to, can, ok)
			}
			if ok {
				is++
			}
		}
	}
	if is != 6 || !sameSsa(s, before) {
		t.Error(is, s)
	}
	checkNoHoist(t, ssa(13, "to 1; to 1; const 12 1, to 1"))
}

// hoistCase is an ssa, what HoistOnce makes of it, and HoistSsa, and how many steps that moves.
type hoistCase struct {
	values int
	text   string
	once   string
	all    string
	many   int
}

// Promise 12: steps that are moved, and in which order.
func TestHoistMoves(t *testing.T) {
	for _, c := range []hoistCase{
		// none
		{12, "end 0 1 2", "end 0 1 2", "end 0 1 2", 0},
		{13, "const 12 1, trap", "const 12 1, trap", "const 12 1, trap", 0},
		{13, "to 1(3); with 12, out 12, if 0 1(12) 2; trap", "to 1(3); with 12, out 12, if 0 1(12) 2; trap", "to 1(3); with 12, out 12, if 0 1(12) 2; trap", 0},
		{13, "to 1; div 12 1 2, if 0 1 2; trap", "to 1; div 12 1 2, if 0 1 2; trap", "to 1; div 12 1 2, if 0 1 2; trap", 0},
		// one
		{13, "to 1; const 12 1, if 0 1 2; trap", "const 12 1, to 1; if 0 1 2; trap", "const 12 1, to 1; if 0 1 2; trap", 1},
		{13, "out 1, to 1; out 2, const 12 1, out 12, if 0 1 2; trap", "out 1, const 12 1, to 1; out 2, out 12, if 0 1 2; trap", "out 1, const 12 1, to 1; out 2, out 12, if 0 1 2; trap", 1},
		{13, "to 1; const 12 1, if 12 1 2; out 12, trap", "const 12 1, to 1; if 12 1 2; out 12, trap", "const 12 1, to 1; if 12 1 2; out 12, trap", 1},
		{14, "to 1(3); with 12, const 13 1, if 0 1(13) 2; end 13 12 0", "const 13 1, to 1(3); with 12, if 0 1(13) 2; end 13 12 0", "const 13 1, to 1(3); with 12, if 0 1(13) 2; end 13 12 0", 1},
		{14, "const 13 1, to 1; load 12 1, mul 13 1 1, if 0 1 2; trap", "", "", 0},
		// several: as they stand
		{14, "to 1; const 12 1, const 13 2, if 0 1 2; trap", "const 12 1, to 1; const 13 2, if 0 1 2; trap", "const 12 1, const 13 2, to 1; if 0 1 2; trap", 2},
		{15, "to 1; const 13 1, const 12 2, out 0, copy 14 3, if 0 1 2; trap", "const 13 1, to 1; const 12 2, out 0, copy 14 3, if 0 1 2; trap", "const 13 1, const 12 2, copy 14 3, to 1; out 0, if 0 1 2; trap", 3},
		{14, "to 2; const 12 1, if 0 2 3; const 13 2, to 1; trap", "const 12 1, to 2; if 0 2 3; const 13 2, to 1; trap", "const 12 1, const 13 2, to 2; if 0 2 3; to 1; trap", 2},
		// only when another one has been
		{14, "to 1; add 12 1 1, add 13 12 12, if 0 1 2; trap", "add 12 1 1, to 1; add 13 12 12, if 0 1 2; trap", "add 12 1 1, add 13 12 12, to 1; if 0 1 2; trap", 2},
		{16, "to 1; add 12 1 1, load 13 12, add 14 12 13, copy 15 12, if 0 1 2; trap", "add 12 1 1, to 1; load 13 12, add 14 12 13, copy 15 12, if 0 1 2; trap", "add 12 1 1, copy 15 12, to 1; load 13 12, add 14 12 13, if 0 1 2; trap", 2},
		// each time from the first part on
		{15, "to 2; add 13 12 12, if 0 2 3; add 12 1 1, add 14 1 1, to 1; trap", "add 12 1 1, to 2; add 13 12 12, if 0 2 3; add 14 1 1, to 1; trap", "add 12 1 1, add 13 12 12, add 14 1 1, to 2; if 0 2 3; to 1; trap", 3},
		// out of two loops, one after the other
		{13, "to 1; to 2; const 12 1, if 0 2 3; if 0 1 4; trap", "to 1; const 12 1, to 2; if 0 2 3; if 0 1 4; trap", "const 12 1, to 1; to 2; if 0 2 3; if 0 1 4; trap", 2},
		{15, "to 1; to 2; const 12 1, const 13 2, if 0 2 3; const 14 3, if 0 1 4; trap", "to 1; const 12 1, to 2; const 13 2, if 0 2 3; const 14 3, if 0 1 4; trap", "const 12 1, const 13 2, const 14 3, to 1; to 2; if 0 2 3; if 0 1 4; trap", 5},
		{14, "to 1(3); with 13, to 2; add 12 13 13, if 0 2 3; if 0 1(12) 4; trap", "to 1(3); with 13, add 12 13 13, to 2; if 0 2 3; if 0 1(12) 4; trap", "to 1(3); with 13, add 12 13 13, to 2; if 0 2 3; if 0 1(12) 4; trap", 1},
		{13, "to 1; to 2; to 3; const 12 1, if 0 3 4; if 0 2 5; if 0 1 6; trap", "to 1; to 2; const 12 1, to 3; if 0 3 4; if 0 2 5; if 0 1 6; trap", "const 12 1, to 1; to 2; to 3; if 0 3 4; if 0 2 5; if 0 1 6; trap", 3},
		// out of the inner one alone: two parts lead to the outer one
		{13, "if 0 1 2; to 3; to 3; to 4; const 12 1, if 0 4 5; if 0 3 6; trap", "if 0 1 2; to 3; to 3; const 12 1, to 4; if 0 4 5; if 0 3 6; trap", "if 0 1 2; to 3; to 3; const 12 1, to 4; if 0 4 5; if 0 3 6; trap", 1},
		// two loops, each to the part ahead of it
		{14, "to 1; const 12 1, if 0 1 2; to 3; copy 13 12, if 0 3 4; trap", "const 12 1, to 1; if 0 1 2; to 3; copy 13 12, if 0 3 4; trap", "const 12 1, to 1; if 0 1 2; copy 13 12, to 3; if 0 3 4; trap", 2},
		// the part ahead is numbered behind
		{13, "if 0 3 2; const 12 1, if 0 1 2; trap; to 1", "if 0 3 2; if 0 1 2; trap; const 12 1, to 1", "if 0 3 2; if 0 1 2; trap; const 12 1, to 1", 1},
	} {
		s := ssa(c.values, c.text)
		if c.once == "" { // a value that comes to be twice
			checkNoBetter(t, s)
			continue
		}
		if !impl.GoodSsa(s) {
			t.Fatal(c.text)
		}
		once, is, ok := impl.HoistOnce(s)
		if !sameSsa(once, ssa(c.values, c.once)) || is != (c.many > 0) || !ok {
			t.Errorf("HoistOnce %s: %v %v %v, not %s", c.text, once, is, ok, c.once)
		}
		x := checkBetter(t, s)
		if !sameSsa(x.hoisted, ssa(c.values, c.all)) || len(x.moves) != c.many {
			t.Errorf("HoistSsa %s: %v %d, not %s %d", c.text, x.hoisted, len(x.moves), c.all, c.many)
		}
		for a := range 3 {
			for fuel := range 12 {
				x.checkRuns(t, stateOf(a, 2), fuel)
			}
		}
	}
}

// foldCase is an ssa, and what it is with its constants told.
type foldCase struct {
	values int
	text   string
	folded string
	made   int
}

// Promise 12: FxTwo of two FxConst.
func TestHoistFolds(t *testing.T) {
	for _, c := range []foldCase{
		// none
		{12, "trap", "trap", 0},
		{14, "const 12 1, copy 13 12, trap", "const 12 1, copy 13 12, trap", 0},
		{14, "const 12 1, load 13 12, store 12 13, out 12, trap", "const 12 1, load 13 12, store 12 13, out 12, trap", 0},
		// each Do
		{20, "const 12 7, const 13 2, add 14 12 13, sub 15 12 13, mul 16 12 13, div 17 12 13, less 18 12 13, eq 19 12 13, trap", "const 12 7, const 13 2, const 14 9, const 15 5, const 16 14, const 17 3, const 18 0, const 19 0, trap", 6},
		{20, "const 12 7, const 13 2, add 14 13 12, sub 15 13 12, mul 16 13 12, div 17 13 12, less 18 13 12, eq 19 13 12, trap", "const 12 7, const 13 2, const 14 9, const 15 65531, const 16 14, const 17 0, const 18 1, const 19 0, trap", 6},
		{19, "const 12 65535, add 13 12 12, sub 14 12 12, mul 15 12 12, div 16 12 12, less 17 12 12, eq 18 12 12, trap", "const 12 65535, const 13 65534, const 14 0, const 15 1, const 16 1, const 17 0, const 18 1, trap", 6},
		// WDiv by 0 does not, and what uses it is no FxTwo of two FxConst
		{15, "const 12 7, const 13 0, div 14 12 13, trap", "const 12 7, const 13 0, div 14 12 13, trap", 0},
		{14, "const 12 0, div 13 12 12, trap", "const 12 0, div 13 12 12, trap", 0},
		{16, "const 12 7, const 13 0, div 14 12 13, add 15 14 12, trap", "const 12 7, const 13 0, div 14 12 13, add 15 14 12, trap", 0},
		{15, "const 12 7, const 13 0, div 14 13 12, trap", "const 12 7, const 13 0, const 14 0, trap", 1},
		{16, "const 12 7, sub 13 12 12, div 14 12 13, eq 15 13 13, trap", "const 12 7, const 13 0, div 14 12 13, const 15 1, trap", 2},
		// one FxConst and one other value
		{14, "const 12 1, add 13 12 0, trap", "const 12 1, add 13 12 0, trap", 0},
		{14, "const 12 1, add 13 0 12, trap", "const 12 1, add 13 0 12, trap", 0},
		{14, "const 12 1, mul 13 12 8, trap", "const 12 1, mul 13 12 8, trap", 0}, // 8 to 11 are 0, but no FxConst
		{13, "add 12 8 11, trap", "add 12 8 11, trap", 0},
		{15, "const 12 1, copy 13 12, add 14 13 12, trap", "const 12 1, copy 13 12, add 14 13 12, trap", 0},
		{15, "const 12 1, load 13 12, add 14 13 12, trap", "const 12 1, load 13 12, add 14 13 12, trap", 0},
		{15, "const 12 1, to 1(12); with 13, add 14 12 13, trap", "const 12 1, to 1(12); with 13, add 14 12 13, trap", 0},
		{15, "const 12 1, add 13 12 1, add 14 13 12, trap", "const 12 1, add 13 12 1, add 14 13 12, trap", 0},
		// chains
		{15, "const 12 3, add 13 12 12, mul 14 13 13, out 14, trap", "const 12 3, const 13 6, const 14 36, out 14, trap", 2},
		{17, "const 12 3, const 13 5, add 14 12 13, sub 15 14 13, eq 16 15 12, if 16 1 2; trap; end 14 15 16", "const 12 3, const 13 5, const 14 8, const 15 3, const 16 1, if 16 1 2; trap; end 14 15 16", 3},
		{16, "const 12 3, add 13 12 12, add 14 13 1, add 15 13 13, trap", "const 12 3, const 13 6, add 14 13 1, const 15 12, trap", 2},
		// over parts
		{15, "const 12 3, to 1; add 13 12 12, to 2; add 14 13 12, trap", "const 12 3, to 1; const 13 6, to 2; const 14 9, trap", 2},
		{15, "const 12 2, to 2; add 14 13 13, trap; mul 13 12 12, to 1", "const 12 2, to 2; const 14 8, trap; const 13 4, to 1", 2},
		{16, "to 3; add 15 14 12, trap; add 14 13 13, to 1; const 12 1, add 13 12 12, to 2", "to 3; const 15 5, trap; const 14 4, to 1; const 12 1, const 13 2, to 2", 3},
		{15, "const 12 2, if 0 2 1; add 13 12 12, trap; mul 14 12 12, to 1", "const 12 2, if 0 2 1; const 13 4, trap; const 14 4, to 1", 2},
		// round a loop
		{14, "to 1; const 12 2, add 13 12 12, if 0 1 2; trap", "to 1; const 12 2, const 13 4, if 0 1 2; trap", 1},
		{15, "const 12 1, to 1(12); with 13, add 14 13 12, if 0 1(14) 2; trap", "const 12 1, to 1(12); with 13, add 14 13 12, if 0 1(14) 2; trap", 0},
		// ways round that can't be reduced
		{15, "const 12 1, if 0 1 2; add 13 12 12, to 2; add 14 12 12, to 1", "const 12 1, if 0 1 2; const 13 2, to 2; const 14 2, to 1", 2},
	} {
		s := ssa(c.values, c.text)
		if !impl.GoodSsa(s) {
			t.Fatal(c.text)
		}
		x := checkBetter(t, s)
		if !sameSsa(x.folded, ssa(c.values, c.folded)) || x.made != c.made {
			t.Errorf("FoldSsa %s: %v %d, not %s %d", c.text, x.folded, x.made, c.folded, c.made)
		}
		for a := range 3 {
			for fuel := range 8 {
				x.checkRuns(t, stateOf(a, 2), fuel)
			}
		}
	}
}

// Promise 12: FxTwo of two FxConst, with words at their ends, does what DoWord does.
func TestHoistFoldWords(t *testing.T) {
	words := []int{0, 1, 2, 3, 255, 256, 32767, 32768, 65534, 65535}
	does, not := 0, 0
	for do := impl.WAdd; do <= impl.WEq; do++ {
		for _, a := range words {
			for _, b := range words {
				s := impl.Ssa{Values: 15, Parts: []impl.Part{{Go: impl.GoTrap, Code: []impl.Flat{
					{Op: impl.FxConst, Dst: 14, N: a}, {Op: impl.FxConst, Dst: 12, N: b}, {Op: impl.FxTwo, Do: do, Dst: 13, A: 14, B: 12},
				}}}}
				got, made, ok := impl.FoldSsa(s)
				word, can, _ := impl.DoWord(do, a, b)
				want := copySsa(s)
				if can {
					does++
					want.Parts[0].Code[2] = impl.Flat{Op: impl.FxConst, Dst: 13, N: word}
				} else {
					not++
				}
				if !sameSsa(got, want) || (made == 1) != can || made > 1 || !ok {
					t.Errorf("FoldSsa(%v): %v %d %v", s, got, made, ok)
				}
			}
		}
	}
	if does != 590 || not != 10 {
		t.Error(does, not)
	}
}

// workCase is an ssa that is run from a state whose locals are 0 to 7: how it comes out, with how much fuel, and how many FxTwo it does.
type workCase struct {
	values int
	text   string
	how    int
	fuel   int
	work   int
}

// Promise 12: how much is done, with just as much fuel as is needed, with more, and with less.
func TestHoistWork(t *testing.T) {
	for _, c := range []workCase{
		{12, "end 0 1 2", impl.OutEnd, 1, 0},
		{12, "trap", impl.OutTrap, 1, 0},
		{13, "add 12 1 1, end 0 1 2", impl.OutEnd, 1, 1},
		{18, "add 12 1 1, sub 13 1 1, mul 14 1 1, div 15 1 1, less 16 1 1, eq 17 1 1, end 0 1 2", impl.OutEnd, 1, 6},
		{15, "const 12 1, copy 13 1, load 14 1, store 1 1, out 1, end 0 1 2", impl.OutEnd, 1, 0},
		{14, "add 12 1 1, add 13 12 12, trap", impl.OutTrap, 1, 2},
		{14, "add 12 1 1, to 1; add 13 12 12, end 0 1 2", impl.OutEnd, 2, 2},
		// one that traps is done, too; those behind it are not
		{13, "div 12 1 0, end 0 1 2", impl.OutTrap, 1, 1},
		{15, "add 12 1 1, div 13 1 0, add 14 1 1, end 0 1 2", impl.OutTrap, 1, 2},
		{14, "add 12 1 1, to 1; div 13 12 8, trap", impl.OutTrap, 2, 2},
		// one of another Op that traps
		{15, "add 12 1 1, mul 14 7 7, load 13 14, end 0 1 2", impl.OutTrap, 1, 2},
		{14, "mul 12 7 7, store 12 1, add 13 1 1, end 0 1 2", impl.OutTrap, 1, 1},
		// one way or the other
		{15, "if 0 1 2; add 12 1 1, add 13 1 1, trap; add 14 1 1, end 0 1 2", impl.OutEnd, 2, 1},
		{15, "if 1 1 2; add 12 1 1, add 13 1 1, trap; add 14 1 1, end 0 1 2", impl.OutTrap, 2, 2},
		{16, "const 15 1, table 2 1 1 2 1; trap; add 14 1 1, end 0 1 2", impl.OutEnd, 2, 1},
		// round a loop: 5 times, two of them each
		{15, "const 14 1, to 1(5); with 12, sub 13 12 14, if 13 1(13) 2; end 0 1 2", impl.OutEnd, 7, 5},
		{16, "const 14 1, to 1(5); with 12, mul 15 1 1, sub 13 12 14, if 13 1(13) 2; end 0 1 2", impl.OutEnd, 7, 10},
		{16, "const 14 1, to 1(5); with 12, mul 15 1 1, sub 13 12 14, if 13 1(13) 2; trap", impl.OutTrap, 7, 10},
		{16, "const 14 1, to 1(5); with 12, sub 13 12 14, to 2; div 15 7 13, to 1(13)", impl.OutTrap, 11, 10},
		// a loop within a loop: 3 times 2
		{18, "const 12 1, to 1(3); with 13, to 2(2); with 14, sub 15 14 12, if 15 2(15) 3; sub 16 13 12, if 16 1(16) 4; end 0 1 2", impl.OutEnd, 14, 9},
		// without end
		{13, "to 1; add 12 1 1, to 1", impl.OutFuel, 2000, 0},
		{12, "to 1; to 1", impl.OutFuel, 2000, 0},
	} {
		s := ssa(c.values, c.text)
		if !impl.GoodSsa(s) {
			t.Fatal(c.text)
		}
		state := risingState()
		if _, how, begun, _ := impl.RunSsa(s, state, 2000); how != c.how || begun != c.fuel {
			t.Errorf("%s: %d, %d", c.text, how, begun)
		}
		for _, fuel := range []int{0, c.fuel - 1, c.fuel, c.fuel + 1, 2000} {
			if fuel > 2000 {
				continue
			}
			want, wantOk := c.work, fuel >= c.fuel && c.how != impl.OutFuel
			if !wantOk {
				want = 0
			}
			if work, ok := impl.WorkDone(s, state, fuel); work != want || ok != wantOk {
				t.Errorf("WorkDone %s with %d: %d %v, not %d %v", c.text, fuel, work, ok, want, wantOk)
			}
			checkWork(t, s, state, fuel)
		}
		x := checkBetter(t, s)
		for fuel := range min(c.fuel+3, 20) {
			x.checkRuns(t, state, fuel)
		}
	}
}

// Promise 12: as much work as can be: a part of 60 FxTwo round and round.
func TestHoistWorkMost(t *testing.T) {
	s := ssa(74, "const 12 1, to 1(0); with 13, sub 14 13 12, if 14 1(14) 2; end 0 1 2")
	for i := range 59 {
		s.Parts[1].Code = append(s.Parts[1].Code, impl.Flat{Op: impl.FxTwo, Do: impl.WAdd, Dst: 15 + i, A: 13, B: 12})
	}
	for _, times := range []int{1, 2, 500, 1998} {
		state := stateOf(times, 0)
		if work, ok := impl.WorkDone(s, state, times+2); work != 60*times || !ok {
			t.Error(times, work, ok)
		}
		if work, ok := impl.WorkDone(s, state, times+1); work != 0 || ok {
			t.Error(times, work, ok)
		}
	}
	if work, ok := impl.WorkDone(s, stateOf(1999, 0), 2000); work != 0 || ok {
		t.Error(work, ok)
	}
}

// tallyHoist counts what grown ones have.
type tallyHoist struct {
	gone   [4]int // 0, 1 to 3, 4 to 15, more
	moved  [4]int // likewise
	made   [4]int // likewise
	params int    // Params that went
	twice  int    // values that were moved more than once
	full   int    // parts ahead of a loop that have 60 steps then
	not    int    // that are not reducible
	fewer  int    // runs with fewer FxTwo behind HoistSsa
	same   int
	more   int
	over   int // runs that are not over
}

// sizeOf tells a number's class.
func sizeOf(n int) int {
	switch {
	case n < 4:
		return min(n, 1)
	case n < 16:
		return 2
	}
	return 3
}

func (c *tallyHoist) count(x bettered) {
	c.gone[sizeOf(x.gone)]++
	c.made[sizeOf(x.made)]++
	if !x.hand.reducible {
		c.not++
		return
	}
	c.moved[sizeOf(len(x.moves))]++
	for at, p := range x.s.Parts {
		c.params += len(p.Params) - len(x.dropped.Parts[at].Params)
	}
	values := x.moved()
	slices.Sort(values)
	c.twice += len(values) - len(slices.Compact(slices.Clone(values)))
	for _, p := range x.hoisted.Parts {
		if len(p.Code) == 60 {
			c.full++
		}
	}
}

func (c *tallyHoist) run(t *testing.T, x bettered, state impl.State, fuel int) {
	t.Helper()
	fewer, isOver := x.checkRuns(t, state, fuel)
	switch {
	case !isOver:
		c.over++
	case fewer > 0:
		c.fewer++
	case fewer < 0:
		c.more++
	default:
		c.same++
	}
}

// check looks whether there were some of each class, up to these.
func (c *tallyHoist) check(t *testing.T, gone int, moved int, made int, least int) {
	t.Helper()
	sizes := slices.Concat(c.gone[:gone+1], c.moved[:moved+1], c.made[:made+1])
	if slices.Min(sizes) < least || min(c.params, c.fewer, c.same, c.over) < least {
		t.Errorf("so few of: %+v", *c)
	}
}

// Promise 12: ssas of grown flows, as they are made and without needless Params.
func TestHoistMixedFlows(t *testing.T) {
	pick := someSource()
	var c tallyHoist
	for range 400 {
		f, state := grownFlow(pick), grownState(pick)
		made, ok := impl.MakeSsa(f)
		if !ok {
			continue
		}
		trimmed, _, _ := impl.TrimParams(made)
		for _, s := range []impl.Ssa{made, trimmed} {
			x := checkBetter(t, s)
			c.count(x)
			for _, fuel := range someFuels(pick) {
				c.run(t, x, state, fuel)
			}
		}
	}
	c.check(t, 3, 3, 2, 5)
	if min(c.twice, c.not, c.more) < 20 || c.full < 2 {
		t.Errorf("so few of: %+v", c)
	}
}

// Promise 12: ssas of flows of code, joined and as they are, trimmed and not trimmed.
func TestHoistOfCode(t *testing.T) {
	pick := someSource()
	var c tallyHoist
	for range 400 {
		lifted, ok := impl.LiftSteps(grownCode(pick))
		if !ok {
			continue
		}
		joined, _ := impl.JoinFlow(lifted)
		state := grownState(pick)
		for _, f := range [][]impl.Block{lifted, joined} {
			made, ok := impl.MakeSsa(f)
			if !ok {
				continue
			}
			trimmed, _, _ := impl.TrimParams(made)
			for _, s := range []impl.Ssa{made, trimmed} {
				x := checkBetter(t, s)
				c.count(x)
				for _, fuel := range someFuels(pick) {
					c.run(t, x, state, fuel)
				}
			}
		}
	}
	c.check(t, 3, 2, 1, 5)
}

// Promise 12: grown ssas whose parts have any Params.
func TestHoistMixed(t *testing.T) {
	pick := someSource()
	var c tallyHoist
	for range 1000 {
		s, state := grownSsa(pick), grownState(pick)
		x := checkBetter(t, s)
		c.count(x)
		for _, fuel := range someFuels(pick) {
			c.run(t, x, state, fuel)
		}
	}
	c.check(t, 3, 2, 1, 10)
	if min(c.twice, c.not) < 10 {
		t.Errorf("so few of: %+v", c)
	}
}

// grownRounds is blocks without Code, all come to, with many loops one within the other, most of which are come to from one block alone that goes on but there.
func grownRounds(pick func(int) int) []impl.Block {
	many := 4 + pick(8)
	f := make([]impl.Block, many)
	for at := range many - 1 {
		f[at] = impl.Block{Go: impl.GoTo, Next: []int{at + 1}}
		switch how := pick(8); {
		case at == 0:
		case how < 3:
			f[at] = impl.Block{Go: impl.GoIf, Next: []int{1 + pick(at), at + 1}}
		case how == 3:
			f[at] = impl.Block{Go: impl.GoIf, Next: []int{at + 1, min(at+2, many-1)}}
		case how == 4 && pick(3) == 0:
			f[at] = impl.Block{Go: impl.GoTable, Next: []int{1 + pick(at), at + 1, 1 + pick(at)}}
		}
	}
	f[many-1] = impl.Block{Go: impl.GoEnd}
	if pick(3) == 0 {
		numbers := mixedNumbers(many-1, pick) // any numbers but that of the first one
		out := make([]impl.Block, many)
		out[0] = f[0]
		for at := 1; at < many; at++ {
			out[1+numbers[at-1]] = f[at]
		}
		for at := range out {
			for i, to := range out[at].Next {
				out[at].Next[i] = 1 + numbers[to-1]
			}
		}
		f = out
	}
	return f
}

// grownLooped is an ssa of such blocks.
func grownLooped(pick func(int) int) impl.Ssa {
	return grownOn(grownRounds(pick), pick)
}

// Promise 12: grown ssas with many loops.
func TestHoistLooped(t *testing.T) {
	pick := someSource()
	var c tallyHoist
	for range 800 {
		s, state := grownLooped(pick), grownState(pick)
		x := checkBetter(t, s)
		c.count(x)
		for _, fuel := range someFuels(pick) {
			c.run(t, x, state, fuel)
		}
	}
	c.check(t, 3, 2, 1, 20)
	if min(c.twice, c.not) < 20 || c.more < 5 {
		t.Errorf("so few of: %+v", c)
	}
}

// rounds is loops one in the other, so many, each of which is gone round as often as a local tells, once at least; each part dominates those behind it.
func rounds(deep int) impl.Ssa {
	s := impl.Ssa{Values: 13 + 2*deep, Parts: make([]impl.Part, 2*deep+1)}
	s.Parts[0] = impl.Part{Code: []impl.Flat{{Op: impl.FxConst, Dst: 12, N: 1}}, Go: impl.GoTo, Next: []int{1}, Args: [][]int{{0}}}
	for level := 1; level <= deep; level++ {
		count, less := 11+2*level, 12+2*level
		s.Parts[level].Params = []int{count}
		if level < deep {
			s.Parts[level].Go, s.Parts[level].Next, s.Parts[level].Args = impl.GoTo, []int{level + 1}, [][]int{{level}}
		}
		last := &s.Parts[2*deep-level]
		last.Code = []impl.Flat{{Op: impl.FxTwo, Do: impl.WSub, Dst: less, A: count, B: 12}}
		last.Go, last.Test, last.Next, last.Args = impl.GoIf, less, []int{level, 2*deep - level + 1}, [][]int{{less}, nil}
	}
	s.Parts[2*deep] = impl.Part{Go: impl.GoEnd, Args: [][]int{{0, 1, 2}}}
	return s
}

// strewn puts steps anywhere into parts each of which dominates those behind it; they use what is there, and often what was put ahead of them.
func strewn(s impl.Ssa, many int, pick func(int) int) impl.Ssa {
	out := copySsa(s)
	var put []int
	for at := range out.Parts {
		p := &out.Parts[at]
		for range pick(2*many/len(out.Parts) + 1) {
			if out.Values == impl.MaxValues || len(p.Code) == 60 {
				continue
			}
			place := pick(len(p.Code) + 1)
			there := slices.Concat(places(12), p.Params)
			for before := range at {
				there = append(append(there, out.Parts[before].Params...), madeIn(out.Parts[before].Code)...)
			}
			there = append(there, madeIn(p.Code[:place])...)
			use := func() int {
				if pick(3) == 0 && len(put) > 0 && slices.Contains(there, put[len(put)-1]) {
					return put[len(put)-1]
				}
				return there[pick(len(there))]
			}
			x := impl.Flat{Op: []int{1, 2, 3, 3, 3, 3, 6}[pick(7)]}
			switch x.Op {
			case impl.FxConst:
				x.N = pick(4)
			case impl.FxTwo:
				x.Do, x.A, x.B = []int{4, 5, 6, 8, 9}[pick(5)], use(), use()
			default:
				x.A = use()
			}
			if x.Op != impl.FxOut {
				x.Dst = out.Values
				put = append(put, x.Dst)
				out.Values++
			}
			p.Code = slices.Insert(p.Code, place, x)
		}
	}
	return out
}

// madeIn tells the values that come to be by steps.
func madeIn(l []impl.Flat) []int {
	var out []int
	for _, x := range l {
		_, makes := usedByHand(x)
		out = append(out, makes...)
	}
	return out
}

// Promise 12: runs that go round their loops, once or more often: what is done in a loop and might be done ahead of it is done fewer times, and no FxTwo is done more often.
func TestHoistRounds(t *testing.T) {
	pick := someSource()
	fewer, same, moved, inner := 0, 0, 0, 0
	for range 500 {
		deep := 1 + pick(5)
		s := strewn(rounds(deep), 2+pick(30), pick)
		if !impl.GoodSsa(s) {
			t.Fatalf("GoodSsa(%v)", s)
		}
		x := checkBetter(t, s)
		moved += len(x.moves)
		state := impl.State{Locals: make([]int, 8), Mem: make([]int, 16)}
		for i := range state.Locals {
			state.Locals[i] = 1 + pick(3)
		}
		less, isOver := x.checkRuns(t, state, impl.MaxFuel)
		before, ok := impl.WorkDone(s, state, impl.MaxFuel)
		after, okThen := impl.WorkDone(x.hoisted, state, impl.MaxFuel)
		if _, how, _, _ := impl.RunSsa(s, state, impl.MaxFuel); how == impl.OutTrap { // too much is told
			continue
		}
		if !isOver || !ok || !okThen || less < 0 || before-after != less {
			t.Fatalf("WorkDone(%v, %v): %d %v, then %d %v", s, state, before, ok, after, okThen)
		}
		isTwo := slices.ContainsFunc(x.moves, func(m move) bool { return m.x.Op == impl.FxTwo && state.Locals[m.to] > 1 && m.to < deep })
		switch {
		case less > 0:
			fewer++
		case isTwo:
			t.Fatalf("WorkDone(%v, %v): %d, though there were %v", s, state, before, x.moves)
		default:
			same++
		}
		// all that is left in a loop hangs on what comes to be in it
		for _, loop := range x.hand.loops {
			for _, at := range loop.Body {
				inner += len(x.hoisted.Parts[at].Code)
			}
		}
		for _, m := range x.moves {
			if m.to >= deep {
				t.Fatalf("%v: %v", s, m)
			}
		}
	}
	if fewer < 200 || same < 20 || moved < 1000 || inner < 1000 {
		t.Error("so few of: ", fewer, same, moved, inner)
	}
}

// Promise 12: code told by its words: how many steps go, are moved and are told ahead of any run; and how many FxTwo are done before and behind.
func TestHoistOfWords(t *testing.T) {
	for _, c := range []struct {
		text              string
		gone, moved, made int
		work, then        int
	}{
		{"", 0, 0, 0, 0, 0},
		{"get 1, drop", 1, 0, 0, 0, 0},
		{"const 2, const 3, add, const 4, mul, out", 0, 0, 2, 2, 2},
		{"loop, get 1, get 1, mul, out, get 0, const 1, sub, set 0, get 0, brif 0, end", 2, 4, 0, 8, 5},
		{"loop, const 2, const 3, mul, set 2, get 0, const 1, sub, set 0, get 0, brif 0, end, get 2, out", 3, 5, 1, 8, 5},
		{"loop, get 1, const 1, add, set 2, loop, get 1, get 1, add, drop, get 2, const 1, sub, set 2, get 2, brif 0, end, get 0, const 1, sub, set 0, get 0, brif 0, end", 8, 13, 0, 40, 22},
		{"loop, get 0, get 1, div, drop, get 0, const 1, sub, set 0, get 0, brif 0, end", 2, 2, 0, 8, 8},
		{"get 0, if, const 5, set 1, else, const 6, set 1, end", 1, 0, 0, 0, 0},
	} {
		f, _ := impl.LiftSteps(code(c.text))
		f, _ = impl.JoinFlow(f)
		made, ok := impl.MakeSsa(f)
		if !ok {
			t.Fatal(c.text)
		}
		checkBetter(t, made)
		trimmed, _, _ := impl.TrimParams(made)
		x := checkBetter(t, trimmed)
		work, _ := impl.WorkDone(trimmed, stateOf(4, 3), 300)
		then, _ := impl.WorkDone(x.hoisted, stateOf(4, 3), 300)
		if x.gone != c.gone || len(x.moves) != c.moved || x.made != c.made || work != c.work || then != c.then {
			t.Errorf("%s: %d, %d, %d, %d, %d", c.text, x.gone, len(x.moves), x.made, work, then)
		}
		for a := range 5 {
			x.checkRuns(t, stateOf(a, 2), 300)
		}
	}
}

// fullRounds is as many parts as there can be, five loops one in the other, with as many values as there can be: mostly constants, in parts of 60 steps.
func fullRounds() impl.Ssa {
	s := rounds(5)
	for at := 9; at >= 5; at-- {
		for len(s.Parts[at].Code) < 60 && s.Values < impl.MaxValues {
			s.Parts[at].Code = append(s.Parts[at].Code, impl.Flat{Op: impl.FxConst, Dst: s.Values, N: s.Values})
			s.Values++
		}
	}
	return s
}

// Promise 12: as many steps as can be moved: the part ahead of all loops has 60 then, and that ahead of the next one.
func TestHoistMost(t *testing.T) {
	s := fullRounds()
	if !impl.GoodSsa(s) || s.Values != impl.MaxValues || len(s.Parts) != impl.MaxParts {
		t.Fatal(s)
	}
	x := checkBetter(t, s)
	var sizes []int
	for _, p := range x.hoisted.Parts {
		sizes = append(sizes, len(p.Code))
	}
	// 50 go out of four loops, 9 out of three, 50 out of two of three, 10 out of one of two; the last ones stay
	if !slices.Equal(sizes, []int{60, 60, 0, 0, 0, 1, 1, 1, 50, 60, 0}) || len(x.moves) != 50*4+9*3+50*2+10 || x.gone != 227 {
		t.Error(sizes, len(x.moves), x.gone)
	}
	x.checkRuns(t, stateOf(1, 1), 100)
	state := impl.State{Locals: slices.Repeat([]int{2}, 8), Mem: make([]int, 16)}
	x.checkRuns(t, state, impl.MaxFuel)
}

// Promise 12: as many steps as can be go, one after the other, and as many Params; as many become FxConst.
func TestHoistMostGone(t *testing.T) {
	for _, backward := range []bool{false, true} {
		s := longChain(backward)
		if x := checkBetter(t, s); x.gone != 238 || x.made != 0 || len(x.moves) != 0 {
			t.Error(x.gone, x.made, x.moves)
		}
		first := &s.Parts[0].Code[0]
		*first = impl.Flat{Op: impl.FxConst, Dst: first.Dst, N: 3}
		for at := range s.Parts {
			for i := range s.Parts[at].Code {
				if x := &s.Parts[at].Code[i]; x.Op == impl.FxTwo {
					x.B = x.A
				}
			}
		}
		if x := checkBetter(t, s); x.gone != 238 || x.made != 237 {
			t.Error(x.gone, x.made)
		}
	}
	all := places(250)[12:]
	for _, c := range []struct {
		round func(i int) int
		gone  int
	}{
		{func(i int) int { return all[i] }, 238},
		{func(i int) int { return 3 }, 238},
		{func(i int) int { return all[max(i-1, 0)] }, 238},
		{func(i int) int { return all[min(i+1, 237)] }, 238},
		{func(i int) int { return all[237-i] }, 0},
		{func(i int) int { return all[i^1] }, 0},
	} {
		s := impl.Ssa{Values: 250, Parts: []impl.Part{part("to 1"), {Params: slices.Clone(all), Go: impl.GoTo, Next: []int{1}, Args: [][]int{nil}}}}
		for i := range all {
			s.Parts[0].Args[0] = append(s.Parts[0].Args[0], i%12)
			s.Parts[1].Args[0] = append(s.Parts[1].Args[0], c.round(i))
		}
		x := checkBetter(t, s)
		if x.gone != c.gone {
			t.Error(x.gone, c.gone)
		}
		x.checkRuns(t, risingState(), 20)
	}
}

// Promises 12 and 19: the same answer on many runs.
func TestHoistEachTime(t *testing.T) {
	pick := someSource()
	for _, s := range []impl.Ssa{fullRounds(), fullSsa(), grownLooped(pick), strewn(rounds(3), 30, pick)} {
		dropped, gone, _ := impl.DropUnused(s)
		hoisted, moved, _ := impl.HoistSsa(s)
		folded, made, _ := impl.FoldSsa(s)
		work, is := impl.WorkDone(s, risingState(), 500)
		for range 10 {
			if got, n, ok := impl.DropUnused(s); !sameSsa(got, dropped) || n != gone || !ok {
				t.Fatalf("DropUnused(%v): %v %d, not %v %d", s, got, n, dropped, gone)
			}
			if got, n, _ := impl.HoistSsa(s); !sameSsa(got, hoisted) || n != moved {
				t.Fatalf("HoistSsa(%v): %v %d, not %v %d", s, got, n, hoisted, moved)
			}
			if got, n, ok := impl.FoldSsa(s); !sameSsa(got, folded) || n != made || !ok {
				t.Fatalf("FoldSsa(%v): %v %d, not %v %d", s, got, n, folded, made)
			}
			if got, ok := impl.WorkDone(s, risingState(), 500); got != work || ok != is {
				t.Fatalf("WorkDone(%v): %d %v, not %d %v", s, got, ok, work, is)
			}
		}
	}
}

// Promise 19: ssas that are not good.
func TestHoistNotGood(t *testing.T) {
	for _, s := range wrongSsas() {
		checkNoBetter(t, s)
	}
	s := ssa(13, "to 1; const 12 1, if 0 1 2; end 0 1 2")
	for _, values := range []int{math.MinInt, -1, 0, 11, 12, 251, math.MaxInt} {
		s.Values = values
		checkNoBetter(t, s)
	}
}

// Promise 19: states and fuels that are not as said.
func TestHoistWrongRuns(t *testing.T) {
	s := ssa(13, "add 12 0 1, end 0 1 2")
	for _, state := range wrongStates() {
		for _, fuel := range []int{0, 1, 2000} {
			checkNoWork(t, s, state, fuel)
		}
	}
	for _, fuel := range []int{math.MinInt, math.MinInt + 1, -2000, -2, -1, 2001, 2002, 4000, 1 << 32, math.MaxInt - 1, math.MaxInt} {
		checkNoWork(t, s, stateOf(1, 2), fuel)
	}
	checkNoWork(t, s, stateOf(1, 2), 0)
	for _, fuel := range []int{1, 2, 1999, 2000} {
		for _, state := range []impl.State{stateOf(1, 2), fullState(), risingState()} {
			if work, ok := impl.WorkDone(s, state, fuel); work != 1 || !ok {
				t.Error(fuel, work, ok)
			}
		}
	}
	// what is told already counts: the next one traps
	loud := ssa(14, "add 12 0 1, out 12, add 13 0 1, end 0 1 2")
	for many, want := range map[int]int{0: 2, 98: 2, 99: 2, 100: 1} {
		state := stateOf(1, 2)
		state.Told = make([]int, many)
		if work, ok := impl.WorkDone(loud, state, 5); work != want || !ok {
			t.Error(many, work, ok)
		}
	}
}

// Promises 12 and 19: grown ssas of which one thing became another.
func TestHoistAnything(t *testing.T) {
	pick := someSource()
	wrong, good := 0, 0
	for range 2000 {
		s := grownSsa(pick)
		if pick(2) == 0 {
			s = grownLooped(pick)
		}
		spoilSsa(&s, pick)
		if goodSsaByHand(s) {
			good++
			checkBetter(t, s).checkRuns(t, stateOf(1, 2), 20)
		} else {
			wrong++
			checkNoBetter(t, s)
		}
	}
	if wrong < 700 || good < 150 {
		t.Errorf("so few of: %d wrong, %d good", wrong, good)
	}
}

// Promise 19: nil lists and empty ones are alike.
func TestHoistOfNothing(t *testing.T) {
	var flats [3]impl.Flat
	for _, none := range [][]int{nil, {}, places(3)[:0]} {
		for _, steps := range [][]impl.Flat{nil, {}, flats[:0]} {
			for _, no := range [][][]int{nil, {}, lists("5")[:0]} {
				x := checkBetter(t, impl.Ssa{Values: 13, Parts: []impl.Part{
					{Params: none, Code: steps, Go: impl.GoTo, Next: []int{1}, Args: [][]int{none}},
					{Params: none, Code: []impl.Flat{{Op: impl.FxConst, Dst: 12, N: 4}}, Go: impl.GoTable, Next: []int{1, 2, 3}, Args: [][]int{none, none, none}},
					{Params: none, Code: steps, Go: impl.GoEnd, Next: none, Args: [][]int{{1, 2, 9}}},
					{Params: none, Code: steps, Go: impl.GoTrap, Next: none, Args: no},
				}})
				if x.gone != 1 || len(x.moves) != 1 || x.made != 0 || len(x.hoisted.Parts[0].Code) != 1 || len(x.hoisted.Parts[1].Code) != 0 {
					t.Error(x)
				}
				for a := range 4 {
					x.checkRuns(t, stateOf(a, 2), 5)
				}
			}
		}
	}
}

// sharedRound is an ssa whose lists lie in one memory, one right behind the other, with something behind them; steps of it go, are moved, and are told ahead of any run.
func sharedRound() (impl.Ssa, []impl.Part, []impl.Flat, []int) {
	flats := append(part("const 12 2, const 13 3, add 14 12 13, out 14, mul 16 12 13, trap").Code, impl.Flat{Op: 99, A: -3}, impl.Flat{Op: 1, Dst: 17, N: 9})
	numbers := []int{15, 1, 0, 15, 1, 2, 0, -5, 77}
	args := [][]int{numbers[2:3], numbers[3:4], numbers[:0], numbers[4:7], {88}}
	parts := []impl.Part{
		{Code: flats[:1], Go: impl.GoTo, Next: numbers[1:2], Args: args[:1]},
		{Params: numbers[:1], Code: flats[1:4], Go: impl.GoIf, Next: numbers[4:6], Args: args[1:3]},
		{Params: numbers[:0], Code: flats[4:5], Go: impl.GoEnd, Next: numbers[7:7], Args: args[3:4]},
		{Go: 88, Next: numbers[7:]},
	}
	return impl.Ssa{Values: 18, Parts: parts[:3]}, parts, flats, numbers
}

// Promise 19: no list that is handed in is changed, nor what lies behind it; and that tells nothing.
func TestHoistListsStay(t *testing.T) {
	s, parts, flats, numbers := sharedRound()
	before := copySsa(impl.Ssa{Parts: parts})
	flatsBefore, numbersBefore := slices.Clone(flats), slices.Clone(numbers)
	stays := func() bool {
		return sameSsa(impl.Ssa{Parts: parts}, before) && slices.Equal(flats, flatsBefore) && slices.Equal(numbers, numbersBefore)
	}
	x := checkBetter(t, s)
	for _, c := range []struct {
		got  impl.Ssa
		many int
		text string
		want int
	}{
		{x.dropped, x.gone, "const 12 2, to 1; const 13 3, add 14 12 13, out 14, if 0 1 2; end 1 2 0", 2},
		{x.hoisted, len(x.moves), "const 12 2, const 13 3, add 14 12 13, to 1(0); with 15, out 14, if 0 1(15) 2; mul 16 12 13, end 1 2 0", 2},
		{x.folded, x.made, "const 12 2, to 1(0); with 15, const 13 3, const 14 5, out 14, if 0 1(15) 2; const 16 6, end 1 2 0", 2},
	} {
		if !sameSsa(c.got, ssa(18, c.text)) || c.many != c.want {
			t.Errorf("%v %d, not %s %d", c.got, c.many, c.text, c.want)
		}
	}
	for fuel := range 6 {
		x.checkRuns(t, stateOf(0, 1), fuel)
		x.checkRuns(t, stateOf(1, 1), fuel)
	}
	if !stays() {
		t.Error(parts, flats, numbers)
	}
	for many := range len(parts) + 1 {
		if many != 3 {
			checkNoBetter(t, impl.Ssa{Values: 18, Parts: parts[:many]})
		}
	}
	checkNoBetter(t, impl.Ssa{Values: 16, Parts: s.Parts})
	if !stays() {
		t.Error(parts, flats, numbers)
	}
	// a state's lists, with something behind them
	locals, mem, told := slices.Repeat([]int{-5}, 20), slices.Repeat([]int{-6}, 30), slices.Repeat([]int{-7}, 110)
	copy(locals, make([]int, 8))
	copy(mem, places(16))
	copy(told, []int{3, 4, 5})
	all := impl.State{Locals: locals, Mem: mem, Told: told}
	allBefore := copyOfState(all)
	state := impl.State{Locals: locals[:8], Mem: mem[:16], Told: told[:3]}
	if work, ok := impl.WorkDone(ssa(13, "store 0 1, out 1, add 12 1 1, end 12 12 12"), state, 1); work != 1 || !ok {
		t.Error(work, ok)
	}
	if work, ok := impl.WorkDone(s, state, 3); work != 2 || !ok || !sameStates(all, allBefore) || !stays() {
		t.Error(work, ok, all)
	}
}

// Promise 19: what is told shares no memory with what was handed in, nor do two lists of one answer share any, nor two answers.
func TestHoistAnswersAreNew(t *testing.T) {
	shared, parts, flats, numbers := sharedRound()
	before := copySsa(impl.Ssa{Parts: parts})
	flatsBefore, numbersBefore := slices.Clone(flats), slices.Clone(numbers)
	other, _, _, _ := sharedSsa()
	for _, s := range []impl.Ssa{shared, other, fullSsa(), ssa(12, "end 0 1 2"), ssa(12, "trap"), ssa(14, "to 1(3 3); with 12 13, if 13 1(13 13) 2; end 13 13 3"), strewn(rounds(2), 8, someSource())} {
		kept := copySsa(s)
		stays := func() bool {
			return sameSsa(s, kept) && sameSsa(impl.Ssa{Parts: parts}, before) && slices.Equal(flats, flatsBefore) && slices.Equal(numbers, numbersBefore)
		}
		for _, ask := range []func() impl.Ssa{
			func() impl.Ssa { got, _, _ := impl.DropUnused(s); return got },
			func() impl.Ssa { got, _, _ := impl.HoistOnce(s); return got },
			func() impl.Ssa { got, _, _ := impl.HoistSsa(s); return got },
			func() impl.Ssa { got, _, _ := impl.FoldSsa(s); return got },
		} {
			checkSsaIsNew(t, ask, stays)
			checkNothingBehind(t, ask())
		}
	}
}

// checkNothingBehind looks at what lies behind the lengths of the lists of an ssa that is told: nothing of what was handed in.
func checkNothingBehind(t *testing.T, s impl.Ssa) {
	t.Helper()
	for _, list := range listsIn(&s) {
		if slices.ContainsFunc((*list)[:cap(*list)][len(*list):], func(n int) bool { return n != 0 }) {
			t.Error("behind a list: ", (*list)[:cap(*list)])
		}
	}
	for _, p := range s.Parts {
		if slices.ContainsFunc(p.Code[:cap(p.Code)][len(p.Code):], func(x impl.Flat) bool { return x != impl.Flat{} }) {
			t.Error("behind the Code: ", p.Code[:cap(p.Code)])
		}
	}
}
