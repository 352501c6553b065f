package tests

import (
	"fmt"
	"math"
	"slices"
	"strings"
	"testing"

	"loop.example/g00373/impl"
)

// handSame tells which values are always the same: of all two of one sort those are struck out that are not.
type handSame struct {
	s      impl.Ssa
	birth  map[int]mark
	copied []int    // for each value what it copies, -1 for none
	sorts  []string // a copy has that of what it copies, in the end
	uses   [][]int  // likewise
	groups []int
	rounds int
}

func sameByHand(s impl.Ssa) *handSame {
	h := &handSame{s: s, birth: map[int]mark{}, copied: slices.Repeat([]int{-1}, s.Values), uses: make([][]int, s.Values)}
	for value := range s.Values {
		h.sorts = append(h.sorts, fmt.Sprint("alone ", value))
		if value >= 8 && value < 12 {
			h.sorts[value] = "const 0"
		}
	}
	for at, p := range s.Parts {
		for place, param := range p.Params {
			h.birth[param] = mark{param, at, -1}
			h.sorts[param], h.uses[param] = fmt.Sprint("param ", at), argsByHand(s, at, place)
		}
		for place, x := range p.Code {
			uses, makes := usedByHand(x)
			for _, value := range makes {
				h.birth[value] = mark{value, at, place}
			}
			switch x.Op {
			case 1:
				h.sorts[x.Dst] = fmt.Sprint("const ", x.N)
			case 2:
				h.copied[x.Dst] = x.A
			case 3:
				h.sorts[x.Dst], h.uses[x.Dst] = fmt.Sprint("two ", x.Do), uses
			}
		}
	}
	for value := range s.Values {
		end := value
		for h.copied[end] >= 0 {
			end = h.copied[end]
		}
		h.sorts[value], h.uses[value] = h.sorts[end], h.uses[end]
	}
	h.strike()
	return h
}

// strike goes round as long as two are struck out, by those that were struck out in the rounds before.
func (h *handSame) strike() {
	alike := emptyWeb(h.s.Values)
	for a := range alike {
		for b := range alike {
			alike[a][b] = h.sorts[a] == h.sorts[b]
		}
	}
	for struck := h.unlike(alike); len(struck) > 0; struck = h.unlike(alike) {
		h.rounds++
		for _, two := range struck {
			alike[two[0]][two[1]] = false
		}
	}
	many := 0
	for value, row := range alike {
		first := slices.Index(row, true)
		if first == value {
			h.groups = append(h.groups, many)
			many++
		} else {
			h.groups = append(h.groups, h.groups[first])
		}
	}
}

// unlike tells each two, taken for alike, that use two that are not.
func (h *handSame) unlike(alike web) [][2]int {
	var out [][2]int
	for a, row := range alike {
		for b, is := range row {
			for i := range h.uses[a] {
				if is && !alike[h.uses[a][i]][h.uses[b][i]] {
					out = append(out, [2]int{a, b})
					break
				}
			}
		}
	}
	return out
}

// isStable looks at each two values of one number.
func (h *handSame) isStable(groups []int) bool {
	for a := range groups {
		if h.copied[a] >= 0 && groups[a] != groups[h.copied[a]] {
			return false
		}
		for b := range a {
			if groups[a] != groups[b] {
				continue
			}
			if h.sorts[a] != h.sorts[b] {
				return false
			}
			for i := range h.uses[a] {
				if groups[h.uses[a][i]] != groups[h.uses[b][i]] {
					return false
				}
			}
		}
	}
	return true
}

// useFirst tries for each use all values ahead of it by number.
func (h *handSame) useFirst() (impl.Ssa, int) {
	out, changed := copySsa(h.s), 0
	dominators := dominatorsByHand(graphByHand(blocksIn(h.s)))
	change := func(field *int, at int, place int) {
		for value := range *field {
			b, is := h.birth[value]
			isAhead := is && (b.part == at && b.place < place || b.part != at && slices.Contains(dominators[at], b.part))
			if h.groups[value] == h.groups[*field] && (value < 12 || isAhead) {
				*field = value
				changed++
				return
			}
		}
	}
	for at := range out.Parts {
		p := &out.Parts[at]
		for place := range p.Code {
			uses, _ := usedByHand(p.Code[place])
			for k := range uses {
				change(fieldsOf(&p.Code[place])[2+k], at, place)
			}
		}
		if p.Go == 2 || p.Go == 5 {
			change(&p.Test, at, len(p.Code))
		}
		for _, args := range p.Args {
			for i := range args {
				change(&args[i], at, len(p.Code))
			}
		}
	}
	return out, changed
}

// likened is a good ssa, and what is told of it.
type likened struct {
	s       impl.Ssa
	hand    *handSame
	used    impl.Ssa
	changed int
}

// checkUseFirst holds UseFirst against what is worked out by hand; a second time nothing changes, and groups stay.
func checkUseFirst(t *testing.T, h *handSame) (impl.Ssa, int) {
	t.Helper()
	want, wantChanged := h.useFirst()
	used, changed, ok := impl.UseFirst(h.s)
	if !sameSsa(used, want) || changed != wantChanged || !ok {
		t.Fatalf("UseFirst(%v): %v %d %v, not %v %d", h.s, used, changed, ok, want, wantChanged)
	}
	if !impl.GoodSsa(used) || !goodSsaByHand(used) {
		t.Fatalf("UseFirst(%v): %v", h.s, used)
	}
	if again, n, ok := impl.UseFirst(used); !sameSsa(again, used) || n != 0 || !ok {
		t.Fatalf("UseFirst(%v): %v %d %v", used, again, n, ok)
	}
	if groups, ok := impl.GroupsOf(used); !slices.Equal(groups, h.groups) || !ok {
		t.Fatalf("GroupsOf(%v): %v %v, not %v", used, groups, ok, h.groups)
	}
	return used, changed
}

// checkSame is promise 11 of a good ssa, but for runs; and it holds all that is told of it against what is worked out by hand.
func checkSame(t *testing.T, s impl.Ssa) likened {
	t.Helper()
	before := copySsa(s)
	h := sameByHand(s)
	groups, ok := impl.GroupsOf(s)
	if !slices.Equal(groups, h.groups) || !ok {
		t.Fatalf("GroupsOf(%v): %v %v, not %v", s, groups, ok, h.groups)
	}
	if is, ok := impl.IsStablePartition(s, groups); !is || !ok || !h.isStable(groups) {
		t.Fatalf("IsStablePartition(%v, %v): %v %v", s, groups, is, ok)
	}
	if many, ok := impl.GroupCount(s); many != slices.Max(h.groups)+1 || !ok {
		t.Fatalf("GroupCount(%v): %d %v, of %v", s, many, ok, groups)
	}
	if rounds, ok := impl.RoundsOf(s); rounds != h.rounds || !ok {
		t.Fatalf("RoundsOf(%v): %d %v, not %d", s, rounds, ok, h.rounds)
	}
	used, changed := checkUseFirst(t, h)
	if !sameSsa(s, before) {
		t.Fatalf("%v was %v", s, before)
	}
	return likened{s, h, used, changed}
}

// checkStable holds IsStablePartition of any numbers at all against what is worked out by hand.
func (x likened) checkStable(t *testing.T, groups []int) bool {
	t.Helper()
	before, copied := slices.Clone(groups), copySsa(x.s)
	wantOk := len(groups) == x.s.Values
	want := wantOk && x.hand.isStable(groups)
	if is, ok := impl.IsStablePartition(x.s, groups); is != want || ok != wantOk {
		t.Fatalf("IsStablePartition(%v, %v): %v %v, not %v %v", x.s, groups, is, ok, want, wantOk)
	}
	if !slices.Equal(groups, before) || !sameSsa(x.s, copied) {
		t.Fatalf("%v was %v", groups, before)
	}
	return want
}

// checkTwo holds SameGroup of any two numbers against what is worked out by hand.
func (x likened) checkTwo(t *testing.T, a int, b int) bool {
	t.Helper()
	wantOk := areIn([]int{a, b}, 0, x.s.Values-1)
	want := wantOk && x.hand.groups[a] == x.hand.groups[b]
	if is, ok := impl.SameGroup(x.s, a, b); is != want || ok != wantOk {
		t.Fatalf("SameGroup(%v, %d, %d): %v %v, not %v %v", x.s, a, b, is, ok, want, wantOk)
	}
	return want
}

// thereAt tells the values that are there as a part begins.
func (x likened) thereAt(at int, dominators []int) []int {
	out := places(12)
	for value := 12; value < x.s.Values; value++ {
		b, is := x.hand.birth[value]
		if is && (b.part == at && b.place < 0 || b.part != at && slices.Contains(dominators, b.part)) {
			out = append(out, value)
		}
	}
	return out
}

// sameRun goes from part to part, and looks at the words of those that are there.
type sameRun struct {
	handFlow
	groups []int
	words  map[int]int // by group, in the part that is gone through
	met    int         // how often one was there that was born, and had the word of another one
}

// meet looks at a value that is there.
func (r *sameRun) meet(value int) bool {
	word, is := r.words[r.groups[value]]
	if is && value >= 12 {
		r.met++
	}
	r.words[r.groups[value]] = r.names[value]
	return !is || word == r.names[value]
}

// checkOneWord is promise 11 of a run: at each moment all values of one group that are there have one word. It tells how often two met.
func (x likened) checkOneWord(t *testing.T, state impl.State, fuel int) int {
	t.Helper()
	dominators := dominatorsByHand(graphByHand(blocksIn(x.s)))
	r := &sameRun{handFlow: handFlow{s: copyOfState(state), names: map[int]int{}}, groups: x.hand.groups}
	for value, word := range append(slices.Clone(state.Locals), 0, 0, 0, 0) {
		r.names[value] = word
	}
	var handed []int
	for at := 0; len(r.begun) < fuel; {
		p := x.s.Parts[at]
		r.begun = append(r.begun, at)
		for i, value := range p.Params {
			r.names[value] = handed[i]
		}
		r.words = map[int]int{}
		for _, value := range x.thereAt(at, dominators[at]) {
			if !r.meet(value) {
				t.Fatalf("%v from %v: %d as part %d begins, behind %v: groups %v, words %v", x.s, state, value, at, r.begun, r.groups, r.names)
			}
		}
		for _, step := range p.Code {
			if !r.plain(step) {
				return r.met
			}
			if _, makes := usedByHand(step); len(makes) > 0 && !r.meet(step.Dst) {
				t.Fatalf("%v from %v: %d in part %d, behind %v: groups %v, words %v", x.s, state, step.Dst, at, r.begun, r.groups, r.names)
			}
		}
		if p.Go == 3 || p.Go == 4 {
			return r.met
		}
		way, word := 0, r.names[p.Test]
		if p.Go == 2 && word == 0 {
			way = 1
		}
		if p.Go == 5 {
			way = min(word, len(p.Next)-1)
		}
		handed = nil
		for _, value := range p.Args[way] {
			handed = append(handed, r.names[value])
		}
		at = p.Next[way]
	}
	return r.met
}

// checkTraces looks at the words that TraceSsa tells of those that are there behind the part begun last: it is done to its end, where the run is not over.
func (x likened) checkTraces(t *testing.T, state impl.State, fuel int) {
	t.Helper()
	words, last, _ := impl.TraceSsa(x.s, state, fuel)
	_, how, _, _ := impl.RunSsa(x.s, state, fuel)
	if how == impl.OutTrap || last < 0 {
		return
	}
	there := x.thereAt(last, dominatorsByHand(graphByHand(blocksIn(x.s)))[last])
	for _, step := range x.s.Parts[last].Code {
		_, makes := usedByHand(step)
		there = append(there, makes...)
	}
	first := map[int]int{}
	for _, value := range there {
		group := x.hand.groups[value]
		if other, is := first[group]; is && words[other] != words[value] {
			t.Fatalf("TraceSsa(%v, %v, %d): %v, but %d and %d are in one group", x.s, state, fuel, words, other, value)
		}
		first[group] = value
	}
}

// checkSameUsed looks whether UseFirst's ssa does the same: all words, too, are the same.
func (x likened) checkSameUsed(t *testing.T, state impl.State, fuel int) {
	t.Helper()
	want, wantHow, wantBegun, _ := impl.RunSsa(x.s, state, fuel)
	got, how, begun, ok := impl.RunSsa(x.used, state, fuel)
	if !sameStates(got, want) || how != wantHow || begun != wantBegun || !ok {
		t.Fatalf("RunSsa(%v, %v, %d): %v %d %d %v, but of %v: %v %d %d", x.used, state, fuel, got, how, begun, ok, x.s, want, wantHow, wantBegun)
	}
	words, last, _ := impl.TraceSsa(x.s, state, fuel)
	if then, lastThen, ok := impl.TraceSsa(x.used, state, fuel); !slices.Equal(then, words) || lastThen != last || !ok {
		t.Fatalf("TraceSsa(%v, %v, %d): %v %d %v, not %v %d", x.used, state, fuel, then, lastThen, ok, words, last)
	}
}

// checkRuns is promise 11 of runs; it tells how often two of one group met.
func (x likened) checkRuns(t *testing.T, state impl.State, fuel int) int {
	t.Helper()
	x.checkTraces(t, state, fuel)
	x.checkSameUsed(t, state, fuel)
	return x.checkOneWord(t, state, fuel)
}

// checkNoSame looks for the zero answer of every function, of an ssa that is not good.
func checkNoSame(t *testing.T, s impl.Ssa) {
	t.Helper()
	before := copySsa(s)
	if got, ok := impl.GroupsOf(s); len(got) != 0 || ok {
		t.Errorf("GroupsOf(%v): %v %v", s, got, ok)
	}
	for _, tell := range []func(impl.Ssa) (int, bool){impl.GroupCount, impl.RoundsOf} {
		if got, ok := tell(s); got != 0 || ok {
			t.Errorf("%v: %d %v", s, got, ok)
		}
	}
	if got, n, ok := impl.UseFirst(s); len(got.Parts) != 0 || got.Values != 0 || n != 0 || ok {
		t.Errorf("UseFirst(%v): %v %d %v", s, got, n, ok)
	}
	for _, two := range [][2]int{{0, 0}, {8, 9}, {0, 1}, {-1, 0}, {12, 12}, {s.Values - 1, 0}, {math.MinInt, math.MaxInt}} {
		if is, ok := impl.SameGroup(s, two[0], two[1]); is || ok {
			t.Errorf("SameGroup(%v, %v): %v %v", s, two, is, ok)
		}
	}
	for _, l := range [][]int{nil, {0}, places(11), places(12), places(min(max(s.Values, 0), 300))} {
		copied := slices.Clone(l)
		if is, ok := impl.IsStablePartition(s, l); is || ok {
			t.Errorf("IsStablePartition(%v, %v): %v %v", s, l, is, ok)
		}
		if !slices.Equal(l, copied) {
			t.Errorf("%v was %v", l, copied)
		}
	}
	if !sameSsa(s, before) {
		t.Errorf("%v was %v", s, before)
	}
}

// partition gives each value its own number, but for those told in one list, which have that of the list's first one.
func partition(values int, text string) []int {
	out := places(values)
	for _, list := range lists(text) {
		for _, value := range list {
			out[value] = list[0]
		}
	}
	return out
}

// byFirst numbers groups by their first values, from 0 on.
func byFirst(groups []int) []int {
	var out []int
	var seen []int
	for _, group := range groups {
		if !slices.Contains(seen, group) {
			seen = append(seen, group)
		}
		out = append(out, slices.Index(seen, group))
	}
	return out
}

// alikeCase is an ssa and what is told of it: the groups of several values (where 8 to 11 are one and not told they have no other value), how often groups are parted, UseFirst (empty: as it was), and how many uses changed.
type alikeCase struct {
	values  int
	text    string
	alike   string
	rounds  int
	used    string
	changed int
}

func checkAlikeCases(t *testing.T, cases []alikeCase) {
	t.Helper()
	for _, c := range cases {
		s := ssa(c.values, c.text)
		if !impl.GoodSsa(s) {
			t.Fatalf("%s is not good", c.text)
		}
		text := c.alike
		if !strings.HasPrefix(text, "8 ") {
			text = "8 9 10 11; " + text
		}
		want := byFirst(partition(c.values, text))
		if got, ok := impl.GroupsOf(s); !slices.Equal(got, want) || !ok {
			t.Errorf("GroupsOf(%s): %v %v, not %v", c.text, got, ok, want)
		}
		if got, ok := impl.GroupCount(s); got != slices.Max(want)+1 || !ok {
			t.Errorf("GroupCount(%s): %d %v, not %d", c.text, got, ok, slices.Max(want)+1)
		}
		if got, ok := impl.RoundsOf(s); got != c.rounds || !ok {
			t.Errorf("RoundsOf(%s): %d %v, not %d", c.text, got, ok, c.rounds)
		}
		if c.used == "" {
			c.used = c.text
		}
		if got, n, ok := impl.UseFirst(s); !sameSsa(got, ssa(c.values, c.used)) || n != c.changed || !ok {
			t.Errorf("UseFirst(%s): %v %d %v, not %s %d", c.text, got, n, ok, c.used, c.changed)
		}
		x := checkSame(t, s)
		for a := range c.values {
			for b := range a + 1 {
				if got := x.checkTwo(t, a, b); got != (want[a] == want[b]) {
					t.Errorf("SameGroup(%s, %d, %d): %v", c.text, a, b, got)
				}
			}
		}
		for fuel := range 8 {
			x.checkRuns(t, risingState(), fuel)
			x.checkRuns(t, stateOf(0, 3), fuel)
		}
	}
}

// Promise 11: the sorts of values that are there at first, of FxConst, of FxLoad, and of those that never come to be.
func TestSameSorts(t *testing.T) {
	checkAlikeCases(t, []alikeCase{
		// each local is alone, all others there at first are alike, and with them each FxConst 0
		{12, "trap", "", 0, "", 0},
		{12, "end 0 1 2", "", 0, "", 0},
		{12, "end 8 8 8", "", 0, "", 0},
		{13, "const 12 0, trap", "8 9 10 11 12", 0, "", 0},
		{14, "const 13 0, const 12 0, trap", "8 9 10 11 12 13", 0, "", 0},
		{15, "const 13 0, const 12 1, const 14 0, trap", "8 9 10 11 13 14", 0, "", 0},
		// those that never come to be are each alone
		{20, "trap", "", 0, "", 0},
		{15, "const 13 5, trap", "", 0, "", 0},
		// FxConst by N
		{14, "const 12 5, const 13 5, trap", "12 13", 0, "", 0},
		{14, "const 12 5, const 13 6, trap", "", 0, "", 0},
		{14, "const 12 65535, const 13 65535, trap", "12 13", 0, "", 0},
		{14, "const 12 1, const 13 65535, trap", "", 0, "", 0},
		{14, "const 12 32773, const 13 5, trap", "", 0, "", 0},
		{15, "const 12 32768, const 13 256, const 14 16384, trap", "", 0, "", 0},
		{18, "const 12 5, const 13 6, const 14 5, const 15 6, const 16 7, const 17 5, trap", "12 14 17; 13 15", 0, "", 0},
		{14, "const 12 5, to 1; const 13 5, trap", "12 13", 0, "", 0},
		{14, "if 0 1 2; const 12 5, trap; const 13 5, trap", "12 13", 0, "", 0},
		// numbers of N, Do, parts and values that are one are not one sort
		{17, "const 12 4, const 13 12, const 14 1, add 15 0 0, to 1(0); with 16, trap", "", 0, "", 0},
		{21, "const 12 14, const 13 7, const 14 8, div 15 0 0, less 16 0 0, load 17 0, const 18 17, const 19 20, trap", "", 0, "", 0},
		{15, "to 1; to 2; to 3; if 0 4(3) 4(4); with 12, add 13 3 4, const 14 4, trap", "", 0, "", 0},
		// FxLoad, of one A, too
		{14, "load 12 0, load 13 0, trap", "", 0, "", 0},
		{14, "load 12 0, load 13 1, trap", "", 0, "", 0},
		{16, "load 12 0, load 13 0, out 13, add 14 12 0, add 15 13 0, trap", "", 1, "", 0},
		// FxTwo by Do, where it uses the same
		{14, "add 12 0 1, add 13 0 1, trap", "12 13", 0, "", 0},
		{14, "add 12 0 1, sub 13 0 1, trap", "", 0, "", 0},
		{24, "add 12 0 1, sub 13 0 1, mul 14 0 1, div 15 0 1, less 16 0 1, eq 17 0 1, add 18 0 1, sub 19 0 1, mul 20 0 1, div 21 0 1, less 22 0 1, eq 23 0 1, trap", "12 18; 13 19; 14 20; 15 21; 16 22; 17 23", 0, "", 0},
		{14, "div 12 0 8, div 13 0 9, trap", "12 13", 0, "div 12 0 8, div 13 0 8, trap", 1},
		// what adds up to the same is not the same by that
		{15, "const 12 2, const 13 1, add 14 13 13, trap", "", 0, "", 0},
		{14, "const 12 0, sub 13 0 0, trap", "8 9 10 11 12", 0, "", 0},
	})
}

// Promise 11: copies are of the group of what they copy, whatever that is, and whatever their numbers are.
func TestSameCopies(t *testing.T) {
	checkAlikeCases(t, []alikeCase{
		{13, "copy 12 0, trap", "0 12", 0, "", 0},
		{13, "copy 12 7, trap", "7 12", 0, "", 0},
		{13, "copy 12 8, trap", "8 9 10 11 12", 0, "", 0},
		{13, "copy 12 11, trap", "8 9 10 11 12", 0, "copy 12 8, trap", 1},
		{14, "copy 12 0, copy 13 1, trap", "0 12; 1 13", 0, "", 0},
		{14, "copy 12 0, copy 13 0, trap", "0 12 13", 0, "", 0},
		// of a copy
		{14, "copy 12 0, copy 13 12, trap", "0 12 13", 0, "copy 12 0, copy 13 0, trap", 1},
		{14, "copy 13 0, copy 12 13, trap", "0 12 13", 0, "copy 13 0, copy 12 0, trap", 1},
		{16, "copy 15 3, copy 14 15, copy 13 14, copy 12 13, trap", "3 12 13 14 15", 0, "copy 15 3, copy 14 3, copy 13 3, copy 12 3, trap", 3},
		// of an FxConst, of an FxLoad
		{14, "const 12 5, copy 13 12, trap", "12 13", 0, "", 0},
		{14, "const 13 5, copy 12 13, trap", "12 13", 0, "", 0},
		{15, "const 12 5, copy 13 12, const 14 5, trap", "12 13 14", 0, "", 0},
		{14, "const 13 0, copy 12 13, trap", "8 9 10 11 12 13", 0, "const 13 0, copy 12 8, trap", 1},
		{14, "load 12 0, copy 13 12, trap", "12 13", 0, "", 0},
		{15, "load 12 0, load 13 0, copy 14 12, trap", "12 14", 0, "", 0},
		{16, "load 15 0, load 13 0, copy 14 15, copy 12 13, out 14, out 12, trap", "12 13; 14 15", 0, "", 0},
		// of an FxTwo, that is parted from others
		{15, "add 12 0 1, copy 13 12, add 14 0 1, trap", "12 13 14", 0, "", 0},
		{15, "add 12 0 1, copy 13 12, add 14 1 0, trap", "12 13", 1, "", 0},
		{16, "add 12 0 1, copy 13 12, add 14 1 0, copy 15 14, trap", "12 13; 14 15", 1, "", 0},
		// of a Param
		{14, "to 1(3); with 12, copy 13 12, trap", "12 13", 0, "", 0},
		{14, "to 1(3); with 13, copy 12 13, trap", "12 13", 0, "", 0},
		{16, "to 1(3 3); with 12 13, copy 14 13, copy 15 12, trap", "12 13 14 15", 0, "to 1(3 3); with 12 13, copy 14 12, copy 15 12, trap", 1},
		{16, "to 1(3 4); with 12 13, copy 14 13, copy 15 12, trap", "12 15; 13 14", 1, "", 0},
		// a Param that is handed but one value is not of its group
		{13, "to 1(3); with 12, end 12 12 3", "", 0, "", 0},
		// used as what they copy
		{15, "copy 12 0, add 13 12 1, add 14 0 1, trap", "0 12; 13 14", 0, "copy 12 0, add 13 0 1, add 14 0 1, trap", 1},
		{17, "copy 12 0, copy 13 1, add 14 13 12, add 15 1 0, add 16 0 1, trap", "0 12; 1 13; 14 15", 1, "copy 12 0, copy 13 1, add 14 1 0, add 15 1 0, add 16 0 1, trap", 2},
		{15, "copy 12 3, to 1(3 12); with 13 14, trap", "3 12; 13 14", 0, "copy 12 3, to 1(3 3); with 13 14, trap", 1},
		// from part to part, numbered against the ways
		{14, "to 2; copy 12 13, trap; const 13 7, to 1", "12 13", 0, "", 0},
		{16, "load 15 0, to 3; copy 12 13, end 12 12 12; copy 13 14, to 1; copy 14 15, to 2", "12 13 14 15", 0, "", 0},
		{16, "const 15 9, to 3; copy 14 13, end 14 14 14; copy 13 12, to 1; copy 12 15, to 2", "12 13 14 15", 0, "const 15 9, to 3; copy 14 12, end 12 12 12; copy 13 12, to 1; copy 12 15, to 2", 4},
	})
}

// Promise 11: what FxTwo uses, place by place.
func TestSameTwo(t *testing.T) {
	checkAlikeCases(t, []alikeCase{
		// A and B turned round are not alike by that alone
		{14, "add 12 0 1, add 13 1 0, trap", "", 1, "", 0},
		{14, "add 12 0 0, add 13 0 0, trap", "12 13", 0, "", 0},
		{14, "add 12 8 9, add 13 9 8, trap", "12 13", 0, "add 12 8 8, add 13 8 8, trap", 2},
		{14, "add 12 8 0, add 13 0 8, trap", "", 1, "", 0},
		{16, "const 12 5, const 13 5, mul 14 12 13, mul 15 13 12, trap", "12 13; 14 15", 0, "const 12 5, const 13 5, mul 14 12 12, mul 15 12 12, trap", 2},
		// one of both is another
		{14, "add 12 0 1, add 13 0 2, trap", "", 1, "", 0},
		{14, "add 12 0 1, add 13 2 1, trap", "", 1, "", 0},
		{15, "add 12 0 1, add 13 0 2, add 14 0 1, trap", "12 14", 1, "", 0},
		// through several steps
		{16, "add 12 0 1, add 13 0 1, sub 14 12 2, sub 15 13 2, trap", "12 13; 14 15", 0, "add 12 0 1, add 13 0 1, sub 14 12 2, sub 15 12 2, trap", 1},
		{16, "add 12 0 1, add 13 1 0, sub 14 12 2, sub 15 13 2, trap", "", 2, "", 0},
		{16, "add 12 0 1, add 13 1 0, sub 14 2 12, sub 15 2 13, trap", "", 2, "", 0},
		{18, "add 12 0 1, add 13 0 1, sub 14 12 13, sub 15 13 12, mul 16 14 15, mul 17 15 14, trap", "12 13; 14 15; 16 17", 0, "add 12 0 1, add 13 0 1, sub 14 12 12, sub 15 12 12, mul 16 14 14, mul 17 14 14, trap", 4},
		// in unlike parts
		{14, "add 12 0 1, to 1; add 13 0 1, out 13, trap", "12 13", 0, "add 12 0 1, to 1; add 13 0 1, out 12, trap", 1},
		{14, "if 0 1 2; add 12 0 1, to 3; add 13 0 1, to 3; trap", "12 13", 0, "", 0},
	})
}

// Promise 11: what Params are handed, Arg by Arg, on each way; Params round loops.
func TestSameParams(t *testing.T) {
	checkAlikeCases(t, []alikeCase{
		{14, "to 1(3 3); with 12 13, trap", "12 13", 0, "", 0},
		{14, "to 1(3 4); with 12 13, trap", "", 1, "", 0},
		{14, "to 1(9 10); with 12 13, trap", "12 13", 0, "to 1(8 8); with 12 13, trap", 2},
		{15, "to 1(3 4 3); with 12 13 14, trap", "12 14", 1, "", 0},
		// of two parts
		{14, "to 1(3); with 12, to 2(3); with 13, trap", "", 0, "", 0},
		{14, "if 0 1(3) 2(3); with 12, trap; with 13, trap", "", 0, "", 0},
		{14, "to 1(3); with 12, to 2(12); with 13, trap", "", 0, "", 0},
		{16, "to 1(3 3); with 12 13, to 2(12 13); with 14 15, trap", "12 13; 14 15", 0, "to 1(3 3); with 12 13, to 2(12 12); with 14 15, trap", 1},
		// two ways from two parts
		{14, "if 0 1 2; to 3(4 4); to 3(5 5); with 12 13, trap", "12 13", 0, "", 0},
		{14, "if 0 1 2; to 3(4 4); to 3(5 6); with 12 13, trap", "", 1, "", 0},
		{14, "if 0 1 2; to 3(4 5); to 3(6 6); with 12 13, trap", "", 1, "", 0},
		{16, "if 0 1 2; add 12 0 1, to 3(4 12); add 13 0 1, to 3(4 13); with 14 15, trap", "12 13", 1, "", 0},
		{16, "if 0 1 2; add 12 0 1, to 3(12 12); add 13 0 1, to 3(13 13); with 14 15, trap", "12 13; 14 15", 0, "", 0},
		// two ways from one part
		{14, "if 0 1(3 3) 1(4 4); with 12 13, trap", "12 13", 0, "", 0},
		{14, "if 0 1(3 3) 1(4 5); with 12 13, trap", "", 1, "", 0},
		{14, "if 0 1(3 4) 1(5 5); with 12 13, trap", "", 1, "", 0},
		{14, "if 0 1(3 4) 1(4 3); with 12 13, trap", "", 1, "", 0},
		{15, "table 0 1(3 3 3) 1(4 4 4) 1(5 6 5) 1(7 7 7); with 12 13 14, trap", "12 14", 1, "", 0},
		// round a loop: alike just because each other are
		{14, "to 1(3 3); with 12 13, to 1(12 13)", "12 13", 0, "to 1(3 3); with 12 13, to 1(12 12)", 1},
		{14, "to 1(3 3); with 12 13, to 1(13 12)", "12 13", 0, "to 1(3 3); with 12 13, to 1(12 12)", 1},
		{14, "to 1(3 3); with 13 12, to 1(13 12)", "12 13", 0, "to 1(3 3); with 13 12, to 1(12 12)", 1},
		{16, "to 1(3 3); with 12 13, add 14 12 0, add 15 13 0, to 1(14 15)", "12 13; 14 15", 0, "to 1(3 3); with 12 13, add 14 12 0, add 15 12 0, to 1(14 14)", 2},
		{16, "to 1(3 3); with 12 13, sub 14 12 13, sub 15 13 12, if 14 1(14 15) 2; end 12 13 15", "12 13; 14 15", 0, "to 1(3 3); with 12 13, sub 14 12 12, sub 15 12 12, if 14 1(14 14) 2; end 12 12 14", 5},
		// and not: at first, or as they go round
		{14, "to 1(3 4); with 12 13, to 1(12 13)", "", 1, "", 0},
		{14, "to 1(3 4); with 12 13, to 1(13 12)", "", 1, "", 0},
		{16, "to 1(3 4); with 12 13, add 14 12 0, add 15 13 0, to 1(14 15)", "", 2, "", 0},
		{16, "to 1(3 3); with 12 13, add 14 12 0, add 15 0 13, to 1(14 15)", "", 2, "", 0},
		{16, "to 1(3 3); with 12 13, add 14 12 0, sub 15 13 0, to 1(14 15)", "", 1, "", 0},
		{16, "to 1(3 3); with 12 13, const 14 1, add 15 12 14, to 1(15 12)", "", 1, "", 0},
		{15, "to 1(3 3 3); with 12 13 14, to 1(12 13 5)", "12 13", 1, "to 1(3 3 3); with 12 13 14, to 1(12 12 5)", 1},
		{15, "to 1(3 3 3); with 12 13 14, to 1(13 14 5)", "", 2, "", 0},
		// a loop in a loop; two ways into a ring
		{18, "to 1(3 3); with 12 13, to 2(12 13); with 14 15, add 16 14 0, add 17 15 0, if 16 2(16 17) 3; if 14 1(14 15) 4; end 14 15 13", "12 13; 14 15; 16 17", 0, "to 1(3 3); with 12 13, to 2(12 12); with 14 15, add 16 14 0, add 17 14 0, if 16 2(16 16) 3; if 14 1(14 14) 4; end 14 14 12", 6},
		{16, "if 0 1(3 3) 2(4 4); with 12 13, to 2(13 12); with 14 15, to 1(14 15)", "12 13; 14 15", 0, "if 0 1(3 3) 2(4 4); with 12 13, to 2(12 12); with 14 15, to 1(14 14)", 2},
		{16, "if 0 1(3 3) 2(4 5); with 12 13, to 2(13 12); with 14 15, to 1(14 15)", "", 2, "", 0},
	})
}

// handedOn is so many parts behind the first one, each of which hands two Params on to the next one, the last one to itself.
func handedOn(many int) string {
	text := "to 1(3 4)"
	for at := 1; at <= many; at++ {
		a, b := 10+2*at, 11+2*at
		text += fmt.Sprintf("; with %d %d, to %d(%d %d)", a, b, min(at+1, many), a, b)
	}
	return text
}

// Promise 11: how often groups are parted: in chains each round parts one group more.
func TestSameRounds(t *testing.T) {
	plain, copied, doubled := "add 12 0 0", "add 12 0 0, copy 13 12", "add 12 0 0, add 13 0 0"
	for many := 1; many <= 12; many++ {
		for _, c := range []struct {
			values int
			text   string
		}{
			{12 + many, plain}, {12 + 2*many, copied}, {12 + 2*many, doubled},
		} {
			x := checkSame(t, ssa(c.values, c.text+", trap"))
			if count, _ := impl.GroupCount(x.s); x.hand.rounds != many-1 || count != 9+many {
				t.Errorf("%s: %d rounds, %d groups", c.text, x.hand.rounds, count)
			}
		}
		last := 11 + many
		plain += fmt.Sprintf(", add %d %d 0", last+1, last)
		last = 11 + 2*many
		copied += fmt.Sprintf(", add %d %d 0, copy %d %d", last+1, last, last+2, last+1)
		doubled += fmt.Sprintf(", add %d %d 0, add %d %d 0", last+1, last-1, last+2, last)
	}
	for many := 1; many <= 10; many++ {
		x := checkSame(t, ssa(32, handedOn(many)))
		if count, _ := impl.GroupCount(x.s); x.hand.rounds != many || count != 29 {
			t.Errorf("%s: %d rounds, %d groups", handedOn(many), x.hand.rounds, count)
		}
	}
	checkAlikeCases(t, []alikeCase{
		// several at once
		{18, "add 12 0 1, add 13 1 0, sub 14 12 0, sub 15 13 0, mul 16 14 0, mul 17 15 0, trap", "", 3, "", 0},
		{18, "add 12 0 1, add 13 1 0, sub 14 2 0, sub 15 0 2, mul 16 3 0, mul 17 0 3, trap", "", 1, "", 0},
		// a copy goes with what it copies in each round
		{18, "add 12 0 1, add 13 1 0, copy 14 12, copy 15 13, sub 16 14 0, sub 17 15 0, trap", "12 14; 13 15", 2, "add 12 0 1, add 13 1 0, copy 14 12, copy 15 13, sub 16 12 0, sub 17 13 0, trap", 2},
		{18, "add 12 0 1, copy 13 12, copy 14 13, add 15 14 1, copy 16 15, add 17 16 1, trap", "12 13 14; 15 16", 2, "add 12 0 1, copy 13 12, copy 14 12, add 15 12 1, copy 16 15, add 17 15 1, trap", 3},
	})
}

// Promise 11: UseFirst: uses in steps, Test and Args, and what may stand there.
func TestSameUseFirst(t *testing.T) {
	checkAlikeCases(t, []alikeCase{
		// each kind of step, in each place; a value that is used twice by one step counts twice
		{13, "copy 12 3, out 12, trap", "3 12", 0, "copy 12 3, out 3, trap", 1},
		{13, "copy 12 3, store 12 12, trap", "3 12", 0, "copy 12 3, store 3 3, trap", 2},
		{13, "copy 12 3, store 4 12, trap", "3 12", 0, "copy 12 3, store 4 3, trap", 1},
		{14, "copy 12 3, load 13 12, trap", "3 12", 0, "copy 12 3, load 13 3, trap", 1},
		{14, "copy 12 3, add 13 12 12, trap", "3 12", 0, "copy 12 3, add 13 3 3, trap", 2},
		{14, "copy 12 3, add 13 12 4, trap", "3 12", 0, "copy 12 3, add 13 3 4, trap", 1},
		{14, "copy 12 3, add 13 3 12, trap", "3 12", 0, "copy 12 3, add 13 3 3, trap", 1},
		{14, "copy 12 3, copy 13 12, trap", "3 12 13", 0, "copy 12 3, copy 13 3, trap", 1},
		{12, "out 11, store 9 10, trap", "", 0, "out 8, store 8 8, trap", 3},
		{13, "const 12 0, out 12, trap", "8 9 10 11 12", 0, "const 12 0, out 8, trap", 1},
		// Test; that of one without is 0, and no use
		{13, "copy 12 3, if 12 1 1; trap", "3 12", 0, "copy 12 3, if 3 1 1; trap", 1},
		{13, "copy 12 3, table 12 1 1 1; trap", "3 12", 0, "copy 12 3, table 3 1 1 1; trap", 1},
		{12, "if 9 1 2; table 10 2 2; trap", "", 0, "if 8 1 2; table 8 2 2; trap", 2},
		{13, "copy 12 0, to 1; out 12, trap", "0 12", 0, "copy 12 0, to 1; out 0, trap", 1},
		// Args: of an end, of each way
		{13, "copy 12 3, end 12 3 12", "3 12", 0, "copy 12 3, end 3 3 3", 2},
		{14, "copy 12 3, to 1(12); with 13, trap", "3 12", 0, "copy 12 3, to 1(3); with 13, trap", 1},
		{15, "copy 12 3, if 0 1(12 3) 1(4 12); with 13 14, trap", "3 12", 1, "copy 12 3, if 0 1(3 3) 1(4 3); with 13 14, trap", 2},
		{15, "table 9 1(11 10) 1(3 9) 1(10 4); with 13 14, trap", "", 1, "table 8 1(8 8) 1(3 8) 1(8 4); with 13 14, trap", 5},
		// what came to be ahead in the part
		{14, "add 12 0 1, add 13 0 1, out 13, trap", "12 13", 0, "add 12 0 1, add 13 0 1, out 12, trap", 1},
		{14, "add 12 0 1, add 13 0 1, end 13 12 13", "12 13", 0, "add 12 0 1, add 13 0 1, end 12 12 12", 2},
		{15, "const 12 7, const 13 7, const 14 7, out 14, out 13, trap", "12 13 14", 0, "const 12 7, const 13 7, const 14 7, out 12, out 12, trap", 2},
		// not what comes to be later in it, nor by the step itself
		{14, "add 13 0 1, out 13, add 12 0 1, out 13, out 12, trap", "12 13", 0, "add 13 0 1, out 13, add 12 0 1, out 12, out 12, trap", 1},
		{14, "const 13 5, copy 12 13, out 13, trap", "12 13", 0, "const 13 5, copy 12 13, out 12, trap", 1},
		{15, "const 14 5, out 14, const 13 5, out 14, const 12 5, out 14, trap", "12 13 14", 0, "const 14 5, out 14, const 13 5, out 13, const 12 5, out 12, trap", 2},
		{14, "const 13 5, if 13 1 1; const 12 5, out 13, trap", "12 13", 0, "const 13 5, if 13 1 1; const 12 5, out 12, trap", 1},
		// not what is not ahead by number
		{14, "add 13 0 1, add 12 0 1, out 12, trap", "12 13", 0, "", 0},
		{14, "const 13 5, to 1; const 12 5, out 12, end 12 12 12", "12 13", 0, "", 0},
		// a Param of the part, and its Params that are not ahead
		{14, "to 1(3 3); with 12 13, out 13, end 13 12 13", "12 13", 0, "to 1(3 3); with 12 13, out 12, end 12 12 12", 3},
		{14, "to 1(3 3); with 13 12, out 13, end 13 12 13", "12 13", 0, "to 1(3 3); with 13 12, out 12, end 12 12 12", 3},
		{14, "to 1(3); with 13, copy 12 13, end 13 12 13", "12 13", 0, "to 1(3); with 13, copy 12 13, end 12 12 12", 2},
		// a part that dominates
		{14, "const 12 5, to 1; const 13 5, out 13, trap", "12 13", 0, "const 12 5, to 1; const 13 5, out 12, trap", 1},
		{14, "const 12 5, to 1; to 2; to 3; const 13 5, end 13 13 12", "12 13", 0, "const 12 5, to 1; to 2; to 3; const 13 5, end 12 12 12", 2},
		{14, "to 2; const 13 5, out 13, trap; const 12 5, to 1", "12 13", 0, "to 2; const 13 5, out 12, trap; const 12 5, to 1", 1},
		{14, "const 12 5, if 0 1 2; to 3; to 3; const 13 5, out 13, trap", "12 13", 0, "const 12 5, if 0 1 2; to 3; to 3; const 13 5, out 12, trap", 1},
		{15, "to 1(3); with 12, to 2; copy 13 12, to 3; copy 14 13, end 14 13 12", "12 13 14", 0, "to 1(3); with 12, to 2; copy 13 12, to 3; copy 14 12, end 12 12 12", 3},
		// one that does not
		{14, "if 0 1 2; const 12 5, to 3; const 13 5, out 13, to 3; trap", "12 13", 0, "", 0},
		{15, "if 0 1 2; const 12 5, to 3; const 13 5, to 3; const 14 5, out 14, trap", "12 13 14", 0, "", 0},
		{14, "if 0 1 2; const 12 5, to 2; const 13 5, out 13, trap", "12 13", 0, "", 0},
		// one that is dominated, round a loop, too
		{14, "const 13 5, out 13, to 1; const 12 5, trap", "12 13", 0, "", 0},
		{14, "to 1; const 13 5, out 13, to 2; const 12 5, out 13, if 0 1 3; out 13, trap", "12 13", 0, "to 1; const 13 5, out 13, to 2; const 12 5, out 12, if 0 1 3; out 12, trap", 2},
		{15, "to 1(3); with 14, sub 13 14 1, out 13, if 13 2 3; sub 12 14 1, out 13, to 1(12); end 13 13 14", "12 13", 0, "to 1(3); with 14, sub 13 14 1, out 13, if 13 2 3; sub 12 14 1, out 12, to 1(12); end 13 13 14", 1},
		// of many the first
		{18, "const 17 5, to 1; const 14 5, to 2; const 16 5, out 17, const 12 5, out 17, to 3; const 13 5, end 17 16 13", "12 13 14 16 17", 0, "const 17 5, to 1; const 14 5, to 2; const 16 5, out 14, const 12 5, out 12, to 3; const 13 5, end 12 12 12", 5},
	})
}

// Promise 11: what the given test has, of a flow with needless Params and without them.
func TestSameOfFlow(t *testing.T) {
	s, _ := impl.MakeSsa(flow("add 2 0 1, copy 3 0, add 4 3 1, out 4, end"))
	x := checkSame(t, s)
	want := byFirst(partition(27, "8 9 10 11; 20 21 22 23; 12 25; 24 26"))
	if !slices.Equal(x.hand.groups, want) || x.hand.rounds != 1 || x.changed != 5 {
		t.Error(x.hand.groups, x.hand.rounds, x.changed)
	}
	trimmed, _, _ := impl.TrimParams(s)
	x = checkSame(t, trimmed)
	want = byFirst(partition(27, "8 9 10 11; 0 25; 24 26"))
	if !slices.Equal(x.hand.groups, want) || x.hand.rounds != 0 || x.changed != 2 || x.used.Parts[1].Code[3].A != 24 {
		t.Error(x.hand.groups, x.hand.rounds, x.used, x.changed)
	}
}

// partitionCase is a partition and whether it is stable.
type partitionCase struct {
	text   string
	stable bool
}

// checkPartitions looks at partitions told by numbers of all kinds.
func checkPartitions(t *testing.T, s impl.Ssa, cases []partitionCase) {
	t.Helper()
	x := checkSame(t, s)
	for _, c := range cases {
		groups := partition(s.Values, c.text)
		for which, tell := range []func(int) int{
			func(n int) int { return n },
			func(n int) int { return n + 1000 },
			func(n int) int { return -n },
			func(n int) int { return -n - 5 },
			func(n int) int { return n - 12 },
			func(n int) int { return math.MinInt + n },
			func(n int) int { return math.MaxInt - n },
			func(n int) int { return n << 32 },
			func(n int) int { return (n%2*2-1)*(n<<40) - 1 },
			func(n int) int { return []int{math.MinInt, math.MaxInt, n}[min(n, 2)] },
		} {
			var told []int
			for _, n := range groups {
				told = append(told, tell(n))
			}
			if got := x.checkStable(t, told); got != c.stable {
				t.Errorf("IsStablePartition(%v, %s, %d): %v", s, c.text, which, got)
			}
		}
	}
}

// Promise 11: partitions that are stable, also finer ones than need be, and those that are not.
func TestSameStable(t *testing.T) {
	checkPartitions(t, ssa(17, "add 12 0 1, add 13 0 1, add 14 1 0, copy 15 12, load 16 0, trap"), []partitionCase{
		{"8 9 10 11; 12 13 15", true}, {"12 13 15", true}, {"12 15", true}, {"8 9; 12 15", true}, {"8 9; 10 11; 12 13 15", true}, {"8 11; 12 15", true},
		// a copy has another number than what it copies
		{"", false}, {"12 13", false}, {"13 15", false}, {"14 15", false}, {"12 13; 8 15", false}, {"8 9 10 11", false},
		// A and B turned round
		{"12 13 14 15", false}, {"12 15; 13 14", false}, {"12 14 15", false},
		// another sort
		{"12 15; 0 1", false}, {"0 1; 12 13 14 15", false}, {"12 15; 0 16", false}, {"12 15; 14 16", false}, {"8 12 15", false}, {"12 15; 7 8", false}, {"12 15; 7 11", false}, {"0 12 15", false}, {"12 13 15; 16 8", false},
		{"0 1 2 3 4 5 6 7 8 9 10 11 12 13 14 15 16", false},
	})
	checkPartitions(t, ssa(17, "to 1(3 3 4); with 12 13 14, add 15 12 0, add 16 13 0, if 0 1(15 16 14) 2; end 15 15 15"), []partitionCase{
		// each alone; groups that hang on each other are so together or not at all
		{"", true}, {"12 13; 15 16", true}, {"8 9 10 11", true}, {"12 13; 15 16; 8 11; 9 10", true},
		{"12 13", false}, {"15 16", false}, {"12 14", false}, {"13 14", false}, {"12 13 14; 15 16", false}, {"12 15", false}, {"12 13 15 16", false}, {"12 13; 15 16; 3 4", false}, {"12 13; 15 16; 14 3", false},
	})
	checkPartitions(t, ssa(15, "trap"), []partitionCase{
		// those that never come to be, and those that are there at first
		{"", true}, {"8 9 10 11", true}, {"8 9", true}, {"10 11", true}, {"8 10; 9 11", true}, {"9 11 10", true},
		{"12 13", false}, {"12 14", false}, {"8 12", false}, {"11 12", false}, {"0 12", false}, {"0 1", false}, {"6 7", false}, {"7 8", false}, {"0 8", false},
	})
	checkPartitions(t, ssa(14, "to 1(3); with 12, to 2(3); with 13, trap"), []partitionCase{
		{"", true}, {"12 13", false}, {"3 12", false}, {"3 13", false}, {"3 12 13", false},
	})
	checkPartitions(t, ssa(16, "const 12 5, const 13 5, const 14 6, const 15 0, trap"), []partitionCase{
		{"", true}, {"12 13", true}, {"12 13; 8 9 10 11 15", true}, {"8 15", true}, {"11 15", true}, {"8 9; 10 15", true}, {"12 13; 15 8", true},
		{"12 14", false}, {"13 14", false}, {"12 13 14", false}, {"14 15", false}, {"12 15", false}, {"0 15", false}, {"8 12", false},
	})
	checkPartitions(t, ssa(16, "add 12 0 1, sub 13 0 1, load 14 0, load 15 0, trap"), []partitionCase{
		{"", true}, {"12 13", false}, {"14 15", false}, {"0 14", false}, {"12 14", false},
	})
	checkPartitions(t, ssa(16, "if 0 1(8 9 3 3) 1(3 3 3 4); with 12 13 14 15, trap"), []partitionCase{
		// two ways from one part; stable or not by other groups
		{"", true}, {"8 9; 12 13", true}, {"8 9 10 11; 12 13", true}, {"8 9 10 11", true},
		{"12 13", false}, {"10 11; 12 13", false}, {"14 15", false}, {"8 9; 12 13; 14 15", false}, {"8 9; 12 13 14", false}, {"3 4; 14 15", false},
	})
	checkPartitions(t, ssa(17, "copy 12 0, copy 13 12, const 14 0, copy 15 14, copy 16 9, trap"), []partitionCase{
		// copies of copies, of what is there at first
		{"0 12 13; 8 9 10 11 14 15 16", true}, {"0 12 13; 14 15; 9 16", true}, {"0 12 13; 14 15 8; 9 16", true}, {"0 12 13; 9 14 15 16", true},
		{"0 12; 14 15; 9 16", false}, {"12 13; 14 15; 9 16", false}, {"0 13; 14 15; 9 16", false}, {"0 12 13; 9 16", false}, {"0 12 13; 14 15", false}, {"0 12 13; 14 15; 8 16", false}, {"0 12 13; 14 16; 9 15", false}, {"0 1 12 13; 14 15; 9 16", false},
	})
	checkPartitions(t, ssa(15, "to 1(3); with 12, load 13 12, copy 14 12, to 2; trap"), []partitionCase{
		{"12 14", true}, {"8 9; 12 14", true}, {"13 14", false}, {"12 13 14", false}, {"", false}, {"3 12 14", false},
	})
	checkPartitions(t, ssa(14, "load 13 3, copy 12 13, trap"), []partitionCase{{"12 13", true}, {"", false}, {"3 12 13", false}})
}

// Promises 11 and 19: lists of other lengths than Values.
func TestSameStableLengths(t *testing.T) {
	for _, s := range []impl.Ssa{ssa(12, "trap"), ssa(14, "const 12 5, const 13 5, end 12 13 12"), fullSsa()} {
		x := checkSame(t, s)
		for long := range 40 {
			for _, list := range [][]int{places(long), make([]int, long), slices.Repeat([]int{-1}, long)} {
				x.checkStable(t, list)
			}
			more := append(slices.Clone(x.hand.groups), places(long)...)
			if got := x.checkStable(t, more); got != (long == 0) {
				t.Error(more, got)
			}
			if less := x.hand.groups[:max(s.Values-long, 0)]; x.checkStable(t, less) != (long == 0) {
				t.Error(less)
			}
		}
		for _, wrong := range [][]int{nil, {}, places(250), places(251), make([]int, 100000)} {
			if is, ok := impl.IsStablePartition(x.s, wrong); is || ok {
				t.Errorf("IsStablePartition of %d numbers: %v %v", len(wrong), is, ok)
			}
		}
	}
}

// Promises 11 and 19: two values alike, and numbers that are no values.
func TestSameGroupEnds(t *testing.T) {
	x := checkSame(t, ssa(15, "const 12 5, const 13 5, copy 14 0, trap"))
	some := []int{math.MinInt, math.MinInt + 1, -1 << 32, -13, -12, -2, -1, 15, 16, 250, 251, 1 << 32, 1<<32 + 12, math.MaxInt - 1, math.MaxInt}
	for _, wrong := range some {
		for _, other := range append(places(15), some...) {
			if x.checkTwo(t, wrong, other) || x.checkTwo(t, other, wrong) {
				t.Error(wrong, other)
			}
		}
	}
	for a := range 15 {
		if !x.checkTwo(t, a, a) {
			t.Error(a)
		}
	}
	if !x.checkTwo(t, 12, 13) || !x.checkTwo(t, 13, 12) || !x.checkTwo(t, 0, 14) || !x.checkTwo(t, 14, 0) || x.checkTwo(t, 12, 14) || x.checkTwo(t, 14, 12) {
		t.Error(x.hand.groups)
	}
}

// allPartitions goes through all partitions in which one value is with another only if it may be.
func allPartitions(values int, may func(a int, b int) bool, look func([]int)) {
	var groups, firsts []int
	var goOn func()
	goOn = func() {
		value := len(groups)
		if value == values {
			look(groups)
			return
		}
		for group, first := range firsts {
			if may(value, first) {
				groups = append(groups, group)
				goOn()
				groups = groups[:value]
			}
		}
		groups, firsts = append(groups, len(firsts)), append(firsts, value)
		goOn()
		groups, firsts = groups[:value], firsts[:len(firsts)-1]
	}
	goOn()
}

// isFinerThan tells whether values of one number have one number in another partition, too.
func isFinerThan(groups []int, other []int) bool {
	for a := range groups {
		if other[a] != other[slices.Index(groups, groups[a])] {
			return false
		}
	}
	return true
}

// checkLeast goes through partitions: each that is stable is finer than that which is told, so that one has the fewest groups, and no other one as few. It tells how many are stable, and how many are not.
func (x likened) checkLeast(t *testing.T, may func(a int, b int) bool) (int, int) {
	t.Helper()
	least, best, stable, not := slices.Max(x.hand.groups)+1, 0, 0, 0
	allPartitions(x.s.Values, may, func(groups []int) {
		if !x.checkStable(t, groups) {
			not++
			return
		}
		stable++
		many := slices.Max(groups) + 1
		if many < least || !isFinerThan(groups, x.hand.groups) {
			t.Fatalf("%v: %v is stable, not just %v", x.s, groups, x.hand.groups)
		}
		if many == least {
			best++
		}
	})
	if best != 1 {
		t.Fatalf("%v: as few groups as %v: %d", x.s, x.hand.groups, best)
	}
	return stable, not
}

// howMany counts the partitions in which all of one number are of one sort, up to a limit.
func (h *handSame) howMany(limit int) int {
	out, sizes := 1, map[string]int{}
	for _, sort := range h.sorts {
		sizes[sort]++
	}
	for _, size := range sizes {
		out *= []int{1, 1, 2, 5, 15, 52, 203, 877, 4140}[min(size, 8)]
		if out > limit {
			return limit + 1
		}
	}
	return out
}

// Promise 11: no stable partition has fewer groups: of ssas with few values all partitions in which values of one number are of one sort.
func TestSameAllPartitions(t *testing.T) {
	pick := someSource()
	few, stable, not, several := 0, 0, 0, 0
	for few < 100 {
		s := grownSsa(pick)
		if s.Values <= 60 && pick(2) == 0 {
			s = twinned(s, pick)
		}
		h := sameByHand(s)
		if many := h.howMany(2000); many < 100 || many > 2000 {
			continue
		}
		few++
		x := checkSame(t, s)
		right, wrong := x.checkLeast(t, func(a int, b int) bool { return h.sorts[a] == h.sorts[b] })
		stable, not = stable+right, not+wrong
		if right > 15 {
			several++
		}
	}
	if stable < 2000 || not < 15000 || several < 30 {
		t.Errorf("so few of: %d stable, %d not, %d with several", stable, not, several)
	}
}

// Promise 11: of ssas with as few values as can be all partitions at all.
func TestSameAllPartitionsAtAll(t *testing.T) {
	all := func(a int, b int) bool { return a >= 8 }
	for _, c := range []struct {
		values int
		text   string
		stable int
	}{
		{12, "end 0 1 2", 15},
		{13, "const 12 0, trap", 52},
		{13, "const 12 5, trap", 15},
		{13, "copy 12 3, trap", 15},
		{13, "copy 12 9, trap", 15},
		{13, "to 1(3); with 12, trap", 15},
	} {
		x := checkSame(t, ssa(c.values, c.text))
		if stable, not := x.checkLeast(t, all); stable != c.stable || not < 5000 {
			t.Errorf("%s: %d stable, %d not", c.text, stable, not)
		}
	}
}

// twins doubles the values of an ssa.
type twins struct {
	pick  func(int) int
	extra int // the twin of a value has so much more
}

// one tells a value, or its twin.
func (w twins) one(value int) int {
	switch {
	case value >= 12:
		return value + w.pick(2)*w.extra
	case value >= 8:
		return 8 + w.pick(4)
	}
	return value
}

func (w twins) all(l []int) []int {
	var out []int
	for _, value := range l {
		out = append(out, w.one(value))
	}
	return out
}

// step tells a step that uses values or their twins.
func (w twins) step(x impl.Flat) impl.Flat {
	uses, _ := usedByHand(x)
	for k, value := range uses {
		*fieldsOf(&x)[2+k] = w.one(value)
	}
	return x
}

// second tells the step that makes the twin; now and then something is not as it was.
func (w twins) second(x impl.Flat) impl.Flat {
	x = w.step(x)
	x.Dst += w.extra
	if w.pick(10) > 0 {
		return x
	}
	switch x.Op {
	case impl.FxConst:
		x.N++
	case impl.FxTwo:
		if x.A, x.B = x.B, x.A; w.pick(2) == 0 {
			x.Do = 4 + w.pick(6)
		}
	}
	return x
}

// handed tells what is handed on: to Params and to their twins; now and then these are handed something else.
func (w twins) handed(l []int) []int {
	out := append(w.all(l), w.all(l)...)
	for i := range out {
		if w.pick(25) == 0 {
			out[i] = out[w.pick(len(out))]
		}
	}
	return out
}

// renumber gives the values that come to be other numbers.
func renumber(s impl.Ssa, pick func(int) int) impl.Ssa {
	numbers := places(s.Values)
	for i := 12; i < s.Values; i++ {
		k := i + pick(s.Values-i)
		numbers[i], numbers[k] = numbers[k], numbers[i]
	}
	s = copySsa(s)
	for at := range s.Parts {
		p := &s.Parts[at]
		for i := range p.Code {
			x := &p.Code[i]
			uses, makes := usedByHand(*x)
			for k, value := range uses {
				*fieldsOf(x)[2+k] = numbers[value]
			}
			for _, value := range makes {
				x.Dst = numbers[value]
			}
		}
		if p.Go == impl.GoIf || p.Go == impl.GoTable {
			p.Test = numbers[p.Test]
		}
		for _, list := range append([][]int{p.Params}, p.Args...) {
			for i, value := range list {
				list[i] = numbers[value]
			}
		}
	}
	return s
}

// twinned is an ssa with at most 131 values in which each value that comes to be has a second one that is made likewise, mostly, of values or their twins.
func twinned(s impl.Ssa, pick func(int) int) impl.Ssa {
	w := twins{pick, s.Values - 12}
	out := impl.Ssa{Values: s.Values + w.extra}
	for _, p := range s.Parts {
		q := impl.Part{Params: slices.Clone(p.Params), Go: p.Go, Next: slices.Clone(p.Next)}
		for _, param := range p.Params {
			q.Params = append(q.Params, param+w.extra)
		}
		for _, x := range p.Code {
			q.Code = append(q.Code, w.step(x))
			if _, makes := usedByHand(x); len(makes) > 0 {
				q.Code = append(q.Code, w.second(x))
			}
		}
		if p.Go == impl.GoIf || p.Go == impl.GoTable {
			q.Test = w.one(p.Test)
		}
		for i := range p.Next {
			q.Args = append(q.Args, w.handed(p.Args[i]))
		}
		if p.Go == impl.GoEnd {
			q.Args = [][]int{w.all(p.Args[0])}
		}
		out.Parts = append(out.Parts, q)
	}
	if pick(3) > 0 {
		out = renumber(out, pick)
	}
	return out
}

// tallySame counts what grown ones have.
type tallySame struct {
	sorts   map[string]int // groups of several values, by kind
	parted  int            // two of one sort that are in unlike groups
	rounds  [4]int         // 0, 1, 2, more
	changed [4]int         // uses: 0, 1 to 3, 4 to 15, more
	kept    int            // uses that could not become the first of their group
	met     int            // how often two of one group met in a run
	stable  int
	not     int
}

func (c *tallySame) count(x likened, met int) {
	if c.sorts == nil {
		c.sorts = map[string]int{}
	}
	seen, sorts := map[int]bool{}, map[string]bool{}
	for value, group := range x.hand.groups {
		kind, _, _ := strings.Cut(x.hand.sorts[value], " ")
		if seen[group] && value >= 12 {
			c.sorts[kind]++
		}
		if !seen[group] && sorts[x.hand.sorts[value]] {
			c.parted++
		}
		seen[group], sorts[x.hand.sorts[value]] = true, true
	}
	c.rounds[min(x.hand.rounds, 3)]++
	switch {
	case x.changed < 4:
		c.changed[min(x.changed, 1)]++
	case x.changed < 16:
		c.changed[2]++
	default:
		c.changed[3]++
	}
	_, used := marksByHand(x.used)
	for _, u := range used {
		if slices.Index(x.hand.groups, x.hand.groups[u.value]) != u.value {
			c.kept++
		}
	}
	c.met += met
}

// refined parts groups till they are stable; they are finer than what is told.
func (h *handSame) refined(groups []int) []int {
	for {
		var texts []string
		for value, group := range groups {
			text := fmt.Sprint(group, h.sorts[value])
			for _, used := range h.uses[value] {
				text += fmt.Sprint(" ", groups[used])
			}
			texts = append(texts, text)
		}
		var now []int
		for value, text := range texts {
			now = append(now, slices.Index(texts, text))
			if end := h.copied[value]; end >= 0 {
				for h.copied[end] >= 0 {
					end = h.copied[end]
				}
				now[value] = -1 - end
			}
		}
		for value, group := range now {
			if group < 0 {
				now[value] = now[-1-group]
			}
		}
		if slices.Equal(now, groups) {
			return now
		}
		groups = now
	}
}

// look asks for other partitions than that which is told: with some numbers changed, and finer ones that are stable.
func (c *tallySame) look(t *testing.T, x likened, pick func(int) int) {
	t.Helper()
	groups := slices.Clone(x.hand.groups)
	for range 1 + pick(2) {
		groups[pick(len(groups))] = groups[pick(len(groups))]
	}
	if x.checkStable(t, groups) {
		c.stable++
	} else {
		c.not++
	}
	some := slices.Clone(x.hand.groups)
	for range 1 + pick(3) {
		some[pick(len(some))] = 1000 + pick(3)
	}
	some = x.hand.refined(some)
	if !x.checkStable(t, some) || !isFinerThan(some, x.hand.groups) {
		t.Fatalf("IsStablePartition(%v, %v): false", x.s, some)
	}
	for range 6 {
		x.checkTwo(t, pick(x.s.Values+2)-1, pick(x.s.Values+2)-1)
		a := pick(x.s.Values)
		x.checkTwo(t, a, slices.Index(x.hand.groups, x.hand.groups[a]))
	}
}

func (c *tallySame) check(t *testing.T, rounds int, least int) {
	t.Helper()
	if min(c.sorts["const"], c.sorts["two"], c.sorts["param"], c.sorts["alone"], c.parted, c.kept, c.met, c.stable, c.not) < least || slices.Min(c.rounds[:rounds+1]) < least || slices.Min(c.changed[:]) < least {
		t.Errorf("so few of: %+v", *c)
	}
}

// Promise 11: ssas of grown flows, as they are made and without needless Params.
func TestSameMixedFlows(t *testing.T) {
	pick := someSource()
	var c tallySame
	for range 700 {
		f, state := grownFlow(pick), grownState(pick)
		made, ok := impl.MakeSsa(f)
		if !ok {
			continue
		}
		trimmed, _, _ := impl.TrimParams(made)
		for _, s := range []impl.Ssa{made, trimmed} {
			x := checkSame(t, s)
			met := x.checkRuns(t, state, 40)
			x.checkRuns(t, state, pick(10))
			c.count(x, met)
			c.look(t, x, pick)
		}
	}
	c.check(t, 3, 5)
}

// Promise 11: ssas of flows of code, joined and as they are, trimmed and not trimmed.
func TestSameOfCode(t *testing.T) {
	pick := someSource()
	var c tallySame
	for range 700 {
		lifted, ok := impl.LiftSteps(grownCode(pick))
		if !ok {
			continue
		}
		joined, _ := impl.JoinFlow(lifted)
		state := grownState(pick)
		for _, f := range [][]impl.Block{lifted, joined} {
			made, ok := impl.MakeSsa(f)
			if !ok {
				continue
			}
			trimmed, _, _ := impl.TrimParams(made)
			for _, s := range []impl.Ssa{made, trimmed} {
				x := checkSame(t, s)
				met := x.checkRuns(t, state, 60)
				x.checkRuns(t, state, pick(12))
				c.count(x, met)
				c.look(t, x, pick)
			}
		}
	}
	c.check(t, 3, 5)
}

// Promise 11: grown ssas whose parts have any Params.
func TestSameMixed(t *testing.T) {
	pick := someSource()
	var c tallySame
	for range 1500 {
		s, state := grownSsa(pick), grownState(pick)
		x := checkSame(t, s)
		met := x.checkRuns(t, state, 5+pick(60))
		x.checkRuns(t, state, pick(8))
		c.count(x, met)
		c.look(t, x, pick)
	}
	c.check(t, 2, 10)
}

// Promise 11: grown ssas most of whose values have others that are made likewise.
func TestSameTwins(t *testing.T) {
	pick := someSource()
	var c tallySame
	for range 1500 {
		s, state := grownSsa(pick), grownState(pick)
		if s.Values > 131 {
			continue
		}
		s = twinned(s, pick)
		if !impl.GoodSsa(s) {
			t.Fatalf("GoodSsa(%v)", s)
		}
		x := checkSame(t, s)
		met := x.checkRuns(t, state, 5+pick(60))
		x.checkRuns(t, state, pick(8))
		c.count(x, met)
		c.look(t, x, pick)
	}
	c.check(t, 3, 10)
}

// Promise 11: code told by its words: how many groups it has without needless Params, and how many uses change.
func TestSameOfWords(t *testing.T) {
	for _, c := range []struct {
		text    string
		alike   int // how many values there are beyond groups
		changed int
	}{
		{"", 3, 0},
		{"get 0, out", 4, 1},
		{"get 0, get 1, add, get 0, get 1, add, add, out", 8, 5},
		{"get 0, const 1, add, set 2, get 0, const 1, add, set 3, get 2, get 3, eq, out", 11, 9},
		{"get 0, if, const 5, set 1, else, const 5, set 1, end, get 1, out", 9, 4},
		{"loop, get 0, const 1, sub, set 0, get 0, brif 0, end, get 0, out", 7, 9},
	} {
		f, _ := impl.LiftSteps(code(c.text))
		f, _ = impl.JoinFlow(f)
		made, ok := impl.MakeSsa(f)
		if !ok {
			t.Fatal(c.text)
		}
		checkSame(t, made)
		trimmed, _, _ := impl.TrimParams(made)
		x := checkSame(t, trimmed)
		many, _ := impl.GroupCount(trimmed)
		if trimmed.Values-many != c.alike || x.changed != c.changed {
			t.Errorf("%s: %d and %d, not %d and %d", c.text, trimmed.Values-many, x.changed, c.alike, c.changed)
		}
		for a := range 5 {
			x.checkRuns(t, stateOf(a, 2), 300)
		}
	}
}

// longChain is as many steps as there can be values: each adds to the one ahead of it, which is numbered behind it, or ahead.
func longChain(backward bool) impl.Ssa {
	s := rowOfParts(11)
	s.Values = 250
	last := 0
	for i := range 238 {
		value := 12 + i
		if backward {
			value = 249 - i
		}
		s.Parts[i/60].Code = append(s.Parts[i/60].Code, impl.Flat{Op: impl.FxTwo, Do: impl.WAdd, Dst: value, A: last, B: 0})
		last = value
	}
	return s
}

// Promise 11: as many values as there can be, all alike, or parted one by one.
func TestSameMost(t *testing.T) {
	for _, backward := range []bool{false, true} {
		if x := checkSame(t, longChain(backward)); x.hand.rounds != 237 || slices.Max(x.hand.groups) != 246 || x.changed != 0 {
			t.Error(x.hand.rounds, x.hand.groups)
		}
	}
	for _, n := range []int{0, 5} {
		s := crowded()
		for at := range s.Parts {
			for i := range s.Parts[at].Code {
				if x := &s.Parts[at].Code[i]; x.Op == impl.FxConst {
					x.N = n
				}
			}
		}
		x := checkSame(t, s)
		if many := slices.Max(x.hand.groups) + 1; x.hand.rounds != 0 || many != 9+min(n, 1) {
			t.Error(many, x.hand.rounds)
		}
		x.checkRuns(t, risingState(), 11)
	}
	// as many Params
	all := places(250)[12:]
	for _, c := range []struct {
		handed func(i int) int
		round  func(i int) int
		rounds int
		many   int
		change int
	}{
		{func(i int) int { return 3 }, func(i int) int { return all[i] }, 0, 10, 237},
		{func(i int) int { return 3 }, func(i int) int { return all[len(all)-1-i] }, 0, 10, 237},
		{func(i int) int { return 8 + i%4 }, func(i int) int { return all[i] }, 0, 10, 178 + 237},
		{func(i int) int { return i % 8 }, func(i int) int { return all[i] }, 1, 17, 230},
		{func(i int) int { return min(i, 1) }, func(i int) int { return all[max(i-1, 0)] }, 237, 247, 0},
	} {
		s := impl.Ssa{Values: 250, Parts: []impl.Part{part("to 1"), {Params: all, Go: impl.GoTo, Next: []int{1}, Args: [][]int{nil}}}}
		for i := range all {
			s.Parts[0].Args[0] = append(s.Parts[0].Args[0], c.handed(i))
			s.Parts[1].Args[0] = append(s.Parts[1].Args[0], c.round(i))
		}
		x := checkSame(t, s)
		if many := slices.Max(x.hand.groups) + 1; x.hand.rounds != c.rounds || many != c.many || x.changed != c.change {
			t.Errorf("%d rounds, %d groups, %d changed, not %d, %d, %d", x.hand.rounds, many, x.changed, c.rounds, c.many, c.change)
		}
		x.checkRuns(t, risingState(), 20)
	}
}

// Promise 11: as many ways to a part as there can be: two of its Params are handed the same on all of them, and on all but one.
func TestSameManyWays(t *testing.T) {
	s := impl.Ssa{Values: 14}
	for at := range 11 {
		p := impl.Part{Go: impl.GoTable, Test: at % 8}
		for way := range 6 {
			p.Next, p.Args = append(p.Next, 1), append(p.Args, []int{way, way})
		}
		if at > 0 && at < 10 {
			p.Next[3], p.Args[3] = at+1, nil
		}
		s.Parts = append(s.Parts, p)
	}
	s.Parts[1].Params = []int{12, 13}
	x := checkSame(t, s)
	if !x.checkTwo(t, 12, 13) || x.hand.rounds != 0 {
		t.Error(x.hand.groups, x.hand.rounds)
	}
	joined, ways := slices.Clone(x.hand.groups), 0
	for at := range s.Parts {
		for way, args := range s.Parts[at].Args {
			if len(args) == 0 {
				continue
			}
			ways++
			other := copySsa(s)
			other.Parts[at].Args[way][1] = 7
			y := checkSame(t, other)
			if y.checkTwo(t, 12, 13) || y.hand.rounds != 1 || y.checkStable(t, joined) {
				t.Error(at, way, y.hand.groups, y.hand.rounds)
			}
		}
	}
	if ways != 57 {
		t.Error(ways)
	}
}

// Promises 11 and 19: the same answer on many runs.
func TestSameEachTime(t *testing.T) {
	pick := someSource()
	for _, s := range []impl.Ssa{longChain(true), fullSsa(), grownSsa(pick), twinned(ssa(16, "to 1(3 4); with 12 13, add 14 12 13, sub 15 13 14, if 14 1(15 14) 2; end 12 14 15"), pick)} {
		groups, _ := impl.GroupsOf(s)
		used, changed, _ := impl.UseFirst(s)
		rounds, _ := impl.RoundsOf(s)
		for range 10 {
			if got, ok := impl.GroupsOf(s); !slices.Equal(got, groups) || !ok {
				t.Fatalf("GroupsOf(%v): %v, not %v", s, got, groups)
			}
			if got, n, ok := impl.UseFirst(s); !sameSsa(got, used) || n != changed || !ok {
				t.Fatalf("UseFirst(%v): %v %d, not %v %d", s, got, n, used, changed)
			}
			if got, ok := impl.RoundsOf(s); got != rounds || !ok {
				t.Fatalf("RoundsOf(%v): %d, not %d", s, got, rounds)
			}
		}
	}
}

// wrongSsas are ssas that are not good.
func wrongSsas() []impl.Ssa {
	return []impl.Ssa{
		{}, {Values: 12}, {Values: 12, Parts: []impl.Part{}}, {Values: 12, Parts: []impl.Part{{}}}, rowOfParts(12), rowOfParts(1000),
		ssa(11, "trap"), ssa(251, "trap"), ssa(0, "end 0 1 2"), ssa(-1, "trap"), ssa(math.MinInt, "trap"), ssa(math.MaxInt, "trap"), ssa(1<<40, "end 0 1 2"),
		ssa(12, "const 12 0, trap"), ssa(13, "out 12, trap"), ssa(13, "copy 12 12, trap"), ssa(14, "copy 12 13, copy 13 12, trap"), ssa(13, "const 12 1, const 12 2, trap"), ssa(13, "const 11 1, trap"),
		ssa(13, "with 12, trap"), ssa(13, "to 1; with 12, trap"), ssa(13, "to 1(0 0); with 12, trap"), ssa(14, "to 1(0 0); with 12 12, trap"),
		ssa(12, "to 0"), ssa(12, "to 1; to 0"), ssa(12, "to 1"), ssa(12, "to -1"), ssa(12, "trap; trap"), ssa(12, "to 1; trap; to 1"), ssa(14, "trap; copy 12 13, to 2; copy 13 12, to 1"),
		ssa(13, "if 0 1 2; const 12 1, to 3; to 3; out 12, trap"), ssa(13, "to 1; out 12, if 0 1 2; const 12 1, trap"), ssa(13, "if 12 1 1; const 12 1, trap"),
		ssa(12, "end 0 1"), ssa(12, "end 0 1 2 3"), ssa(12, "end 0 1 12"), ssa(12, "out -1, trap"), ssa(12, "if 0 1; trap"), ssa(12, "table 0 1 1 1 1 1 1 1; trap"),
		ssa(13, "const 12 65536, trap"), ssa(13, "const 12 -1, trap"), ssa(14, "to 1; copy 12 13, to 2; copy 13 12, to 1"),
		{Values: 12, Parts: []impl.Part{{Go: 4, Test: 1}}}, {Values: 12, Parts: []impl.Part{{Go: 6}}}, {Values: 12, Parts: []impl.Part{{Go: 4, Args: [][]int{nil}}}},
		{Values: 12, Parts: []impl.Part{{Go: 4, Code: make([]impl.Flat, 61)}}}, {Values: 12, Parts: []impl.Part{{Go: 4, Code: []impl.Flat{{Op: 1, Dst: 3}}}}},
		{Values: 13, Parts: []impl.Part{{Go: 4, Code: []impl.Flat{{Op: 3, Do: 3, Dst: 12}}}}}, {Values: 13, Parts: []impl.Part{{Go: 4, Code: []impl.Flat{{Op: 7, Dst: 12}}}}}, {Values: 13, Parts: []impl.Part{{Go: 4, Code: []impl.Flat{{Op: 2, Dst: 12, N: 1}}}}},
	}
}

// Promise 19: ssas that are not good.
func TestSameNotGood(t *testing.T) {
	for _, s := range wrongSsas() {
		if impl.GoodSsa(s) {
			t.Errorf("GoodSsa(%v)", s)
		}
		checkNoSame(t, s)
	}
}

// Promises 11 and 19: grown ssas of which one thing became another.
func TestSameAnything(t *testing.T) {
	pick := someSource()
	wrong, good := 0, 0
	for range 3000 {
		s := grownSsa(pick)
		if s.Values <= 131 && pick(2) == 0 {
			s = twinned(s, pick)
		}
		spoilSsa(&s, pick)
		if goodSsaByHand(s) {
			good++
			checkSame(t, s).checkRuns(t, stateOf(1, 2), 20)
		} else {
			wrong++
			checkNoSame(t, s)
		}
	}
	if wrong < 1000 || good < 200 {
		t.Errorf("so few of: %d wrong, %d good", wrong, good)
	}
}

// Promise 19: nil lists and empty ones are alike.
func TestSameOfNothing(t *testing.T) {
	var flats [3]impl.Flat
	for _, none := range [][]int{nil, {}, places(3)[:0]} {
		for _, steps := range [][]impl.Flat{nil, {}, flats[:0]} {
			for _, no := range [][][]int{nil, {}, lists("5")[:0]} {
				x := checkSame(t, impl.Ssa{Values: 12, Parts: []impl.Part{
					{Params: none, Code: steps, Go: impl.GoIf, Next: []int{1, 2}, Args: [][]int{none, none}},
					{Params: none, Code: steps, Go: impl.GoEnd, Next: none, Args: [][]int{{1, 2, 9}}},
					{Params: none, Code: steps, Go: impl.GoTrap, Next: none, Args: no},
				}})
				if x.changed != 1 || x.checkStable(t, none) || len(x.hand.groups) != 12 {
					t.Error(x.used, x.changed)
				}
			}
		}
	}
}

// Promise 19: no list that is handed in is changed, nor what lies behind it; and that tells nothing.
func TestSameListsStay(t *testing.T) {
	s, parts, flats, numbers := sharedSsa()
	before := copySsa(impl.Ssa{Parts: parts})
	flatsBefore, numbersBefore := slices.Clone(flats), slices.Clone(numbers)
	x := checkSame(t, s)
	y := checkSame(t, copySsa(s))
	if !slices.Equal(y.hand.groups, x.hand.groups) || !sameSsa(y.used, x.used) {
		t.Error(x.used, y.used)
	}
	for many := range len(parts) + 1 {
		if many != 3 {
			checkNoSame(t, impl.Ssa{Values: 19, Parts: parts[:many]})
		}
	}
	// groups with something behind their length
	memory := slices.Concat(x.hand.groups, []int{-5, 77, 0, 12})
	memoryBefore := slices.Clone(memory)
	if !x.checkStable(t, memory[:19]) || x.checkStable(t, memory[:20]) || x.checkStable(t, memory[:18]) || x.checkStable(t, memory) {
		t.Error(memory)
	}
	for fuel := range 6 {
		x.checkRuns(t, risingState(), fuel)
	}
	if !sameSsa(impl.Ssa{Parts: parts}, before) || !slices.Equal(flats, flatsBefore) || !slices.Equal(numbers, numbersBefore) || !slices.Equal(memory, memoryBefore) {
		t.Error(parts, flats, numbers, memory)
	}
	// a list of the ssa itself is the partition
	all := places(24)[12:]
	own := impl.Ssa{Values: 24, Parts: []impl.Part{part("to 1"), {Params: all, Go: impl.GoTo, Next: []int{1}, Args: [][]int{slices.Repeat([]int{3}, 12)}}}}
	own.Parts[0].Args[0] = slices.Repeat([]int{4}, 12)
	kept := copySsa(own)
	if is, ok := impl.IsStablePartition(own, own.Parts[1].Params); is || ok || !sameSsa(own, kept) {
		t.Error(is, ok, own)
	}
	longer := slices.Concat(places(12), all)
	own.Parts[1].Params = longer[12:]
	if is, ok := impl.IsStablePartition(own, longer); !is || !ok || !sameSsa(own, kept) {
		t.Error(is, ok, own)
	}
}

// Promise 19: what is told shares no memory with what was handed in, nor do two lists of one answer share any, nor two answers.
func TestSameAnswersAreNew(t *testing.T) {
	shared, parts, flats, numbers := sharedSsa()
	before := copySsa(impl.Ssa{Parts: parts})
	flatsBefore, numbersBefore := slices.Clone(flats), slices.Clone(numbers)
	loop := ssa(16, "copy 14 3, if 0 1(14 4) 1(4 3); with 12 13, out 12, copy 15 13, if 0 1(12 15) 2; end 12 15 13")
	for _, s := range []impl.Ssa{shared, fullSsa(), loop, ssa(12, "end 0 1 2"), ssa(12, "trap"), ssa(12, "end 9 10 11"), ssa(14, "to 1(3 3); with 12 13, end 13 13 12")} {
		kept := copySsa(s)
		stays := func() bool {
			return sameSsa(s, kept) && sameSsa(impl.Ssa{Parts: parts}, before) && slices.Equal(flats, flatsBefore) && slices.Equal(numbers, numbersBefore)
		}
		checkSsaIsNew(t, func() impl.Ssa { got, _, _ := impl.UseFirst(s); return got }, stays)
		ask := func() []int { got, _ := impl.GroupsOf(s); return got }
		want := slices.Clone(ask())
		first, second := ask(), ask()
		if slices.ContainsFunc(first[:cap(first)][len(first):], func(n int) bool { return n != 0 }) {
			t.Error("behind the list: ", first[:cap(first)])
		}
		spoilNumbers(first)
		if third := ask(); !slices.Equal(second, want) || !slices.Equal(third, want) || !stays() {
			t.Error(second, third, want)
		}
	}
}
