package tests

import (
	"math"
	"slices"
	"strconv"
	"strings"
	"testing"

	"loop.example/g00373/impl"
)

// waysIn tells numbers, and for each those in brackets behind it.
func waysIn(text string) ([]int, [][]int) {
	var n []int
	var args [][]int
	open := false
	for _, word := range strings.Fields(strings.NewReplacer("(", " ( ", ")", " ) ").Replace(text)) {
		switch {
		case word == "(" || word == ")":
			open = word == "("
		case open:
			args[len(args)-1] = append(args[len(args)-1], numbersOf([]string{word})...)
		default:
			n, args = append(n, numbersOf([]string{word})...), append(args, nil)
		}
	}
	return n, args
}

// part tells a part of words, a comma between two: first, where it has Params, `with` and these; then steps and where it goes, as in a flow, behind each of Next its Args in brackets, behind `end` its Args.
func part(text string) impl.Part {
	var p impl.Part
	var b impl.Block
	for words := range strings.SplitSeq(text, ",") {
		word, rest, _ := strings.Cut(strings.TrimSpace(words), " ")
		n, args := waysIn(rest)
		switch word {
		case "with":
			p.Params = n
			continue
		case "end":
			p.Args = [][]int{n}
		case "to":
			p.Args = args
		case "if", "table":
			p.Args = args[1:]
		}
		addTo(&b, word, n)
	}
	p.Code, p.Go, p.Test, p.Next = b.Code, b.Go, b.Test, b.Next
	return p
}

// ssa tells the parts of words, a semicolon between two, with so many values.
func ssa(values int, text string) impl.Ssa {
	s := impl.Ssa{Values: values}
	for words := range strings.SplitSeq(text, ";") {
		s.Parts = append(s.Parts, part(words))
	}
	return s
}

func samePart(a impl.Part, b impl.Part) bool {
	return slices.Equal(a.Params, b.Params) && slices.Equal(a.Code, b.Code) && a.Go == b.Go && a.Test == b.Test && slices.Equal(a.Next, b.Next) && sameLists(a.Args, b.Args)
}

func sameSsa(a impl.Ssa, b impl.Ssa) bool {
	return a.Values == b.Values && slices.EqualFunc(a.Parts, b.Parts, samePart)
}

// copySsa copies all lists of parts, too.
func copySsa(s impl.Ssa) impl.Ssa {
	s.Parts = slices.Clone(s.Parts)
	for i := range s.Parts {
		p := &s.Parts[i]
		p.Params, p.Code, p.Next, p.Args = slices.Clone(p.Params), slices.Clone(p.Code), slices.Clone(p.Next), copyLists(p.Args)
	}
	return s
}

// blocksIn tells the blocks that parts are without Params and Args.
func blocksIn(s impl.Ssa) []impl.Block {
	var f []impl.Block
	for _, p := range s.Parts {
		f = append(f, impl.Block{Code: p.Code, Go: p.Go, Test: p.Test, Next: p.Next})
	}
	return f
}

// usedByHand tells the values that a flat step uses, and that which comes to be by it, if any.
func usedByHand(x impl.Flat) ([]int, []int) {
	switch x.Op {
	case 1:
		return nil, []int{x.Dst}
	case 2, 4:
		return []int{x.A}, []int{x.Dst}
	case 3:
		return []int{x.A, x.B}, []int{x.Dst}
	case 5:
		return []int{x.A, x.B}, nil
	}
	return []int{x.A}, nil
}

// mark is a value at a place of a part: Params are at -1, what is behind the Code is at its length.
type mark struct{ value, part, place int }

// marksByHand tells where values come to be, and where they are used.
func marksByHand(s impl.Ssa) ([]mark, []mark) {
	var born, used []mark
	for at, p := range s.Parts {
		for _, value := range p.Params {
			born = append(born, mark{value, at, -1})
		}
		for place, x := range p.Code {
			uses, makes := usedByHand(x)
			for _, value := range uses {
				used = append(used, mark{value, at, place})
			}
			for _, value := range makes {
				born = append(born, mark{value, at, place})
			}
		}
		if p.Go == 2 || p.Go == 5 {
			used = append(used, mark{p.Test, at, len(p.Code)})
		}
		for _, args := range p.Args {
			for _, value := range args {
				used = append(used, mark{value, at, len(p.Code)})
			}
		}
	}
	return born, used
}

// goodFlatOf is as goodFlatByHand, with so many names.
func goodFlatOf(x impl.Flat, names int) bool {
	if x.Op < 1 || x.Op > 6 {
		return false
	}
	ranges := fieldsByHand(x.Op)
	for i, n := range []int{x.Do, x.Dst, x.A, x.B, x.N} {
		most := ranges[i][1]
		if most == 11 {
			most = names - 1
		}
		if n < ranges[i][0] || n > most {
			return false
		}
	}
	return true
}

func areIn(l []int, least int, most int) bool {
	for _, n := range l {
		if n < least || n > most {
			return false
		}
	}
	return true
}

// goodPartByHand looks at all of a part but for where its values come to be.
func goodPartByHand(s impl.Ssa, p impl.Part) bool {
	if len(p.Code) > 60 || !areIn(p.Params, 0, s.Values-1) || !areIn(p.Next, 1, len(s.Parts)-1) {
		return false
	}
	for _, x := range p.Code {
		if !goodFlatOf(x, s.Values) {
			return false
		}
	}
	var sizes []int
	for _, to := range p.Next {
		sizes = append(sizes, len(s.Parts[to].Params))
	}
	if p.Go == 3 {
		sizes = []int{3}
	}
	if len(p.Args) != len(sizes) {
		return false
	}
	for i, args := range p.Args {
		if len(args) != sizes[i] || !areIn(args, 0, s.Values-1) {
			return false
		}
	}
	isValue := p.Test >= 0 && p.Test < s.Values
	switch p.Go {
	case 1:
		return len(p.Next) == 1 && p.Test == 0
	case 2:
		return len(p.Next) == 2 && isValue
	case 3, 4:
		return len(p.Next) == 0 && p.Test == 0
	case 5:
		return len(p.Next) >= 2 && len(p.Next) <= 6 && isValue
	}
	return false
}

// aheadByHand goes along every way from part 0 that begins no part twice; it tells for each part those that are begun ahead of it on every one, as bits, and -1 where none leads to it.
func aheadByHand(s impl.Ssa) []int {
	out := slices.Repeat([]int{-1}, len(s.Parts))
	type spot struct{ at, begun int }
	seen := map[spot]bool{}
	var goOn func(at int, begun int)
	goOn = func(at int, begun int) {
		if begun>>at&1 == 1 || seen[spot{at, begun}] {
			return
		}
		seen[spot{at, begun}] = true
		out[at] &= begun
		for _, to := range s.Parts[at].Next {
			goOn(to, begun|1<<at)
		}
	}
	goOn(0, 0)
	return out
}

// usesBehindByHand tells whether each use is behind what it uses, whatever way was gone.
func usesBehindByHand(s impl.Ssa) bool {
	ahead := aheadByHand(s)
	born, used := marksByHand(s)
	where := map[int]mark{}
	for _, b := range born {
		where[b.value] = b
	}
	for _, u := range used {
		b, is := where[u.value]
		switch {
		case u.value < 12:
		case !is:
			return false
		case b.part == u.part && b.place >= u.place:
			return false
		case b.part != u.part && ahead[u.part]>>b.part&1 == 0:
			return false
		}
	}
	return true
}

func goodSsaByHand(s impl.Ssa) bool {
	if s.Values < 12 || s.Values > 250 || len(s.Parts) < 1 || len(s.Parts) > 11 || len(s.Parts[0].Params) > 0 {
		return false
	}
	for _, p := range s.Parts {
		if !goodPartByHand(s, p) {
			return false
		}
	}
	if slices.Contains(aheadByHand(s), -1) {
		return false
	}
	born, _ := marksByHand(s)
	var values []int
	for _, b := range born {
		if b.value < 12 || slices.Contains(values, b.value) {
			return false
		}
		values = append(values, b.value)
	}
	return usesBehindByHand(s)
}

// defsByHand and usesByHand look for each value by itself.
func defsByHand(s impl.Ssa) []int {
	born, _ := marksByHand(s)
	out := make([]int, s.Values)
	for value := 12; value < s.Values; value++ {
		out[value] = -1
		if i := slices.IndexFunc(born, func(b mark) bool { return b.value == value }); i >= 0 {
			out[value] = born[i].part
		}
	}
	return out
}

func usesByHand(s impl.Ssa) []int {
	_, used := marksByHand(s)
	out := make([]int, s.Values)
	for value := range out {
		for _, u := range used {
			if u.value == value {
				out[value]++
			}
		}
	}
	return out
}

// argsByHand tells all Args for a Param, from wherever.
func argsByHand(s impl.Ssa, at int, place int) []int {
	var out []int
	for _, p := range s.Parts {
		for i, to := range p.Next {
			if to == at {
				out = append(out, p.Args[i][place])
			}
		}
	}
	return out
}

// needlessByHand tells the part and the place of the first needless Param, and what it is; -1, where there is none.
func needlessByHand(s impl.Ssa) (int, int, int) {
	for at, p := range s.Parts {
		for place, param := range p.Params {
			others := argsByHand(s, at, place)
			slices.Sort(others)
			others = slices.DeleteFunc(slices.Compact(others), func(value int) bool { return value == param })
			if len(others) == 1 {
				return at, place, others[0]
			}
		}
	}
	return 0, 0, -1
}

// insteadOf tells numbers of which one is another instead, those at some place (-1 for none) left out.
func insteadOf(l []int, old int, now int, place int) []int {
	var out []int
	for i, n := range l {
		switch {
		case i == place:
		case n == old:
			out = append(out, now)
		default:
			out = append(out, n)
		}
	}
	return out
}

// lessByHand lets a Param go, another value standing in its place.
func lessByHand(s impl.Ssa, at int, place int, now int) impl.Ssa {
	old := s.Parts[at].Params[place]
	out := impl.Ssa{Values: s.Values}
	for k, p := range s.Parts {
		q := impl.Part{Params: slices.Clone(p.Params), Go: p.Go, Test: insteadOf([]int{p.Test}, old, now, -1)[0], Next: slices.Clone(p.Next)}
		if k == at {
			q.Params = slices.Delete(q.Params, place, place+1)
		}
		for _, x := range p.Code {
			ab := insteadOf([]int{x.A, x.B}, old, now, -1)
			x.A, x.B = ab[0], ab[1]
			q.Code = append(q.Code, x)
		}
		for i, args := range p.Args {
			goes := -1
			if i < len(p.Next) && p.Next[i] == at {
				goes = place
			}
			q.Args = append(q.Args, insteadOf(args, old, now, goes))
		}
		out.Parts = append(out.Parts, q)
	}
	return out
}

func trimParamsByHand(s impl.Ssa) (impl.Ssa, int) {
	for gone := 0; ; gone++ {
		at, place, now := needlessByHand(s)
		if now < 0 {
			return s, gone
		}
		s = lessByHand(s, at, place, now)
	}
}

// makeByHand tells the number of each value from how many there are ahead of it: what a name has is the Dst of the last step with it, or the Param.
func makeByHand(f []impl.Block) impl.Ssa {
	blocks, _ := trimByHand(f)
	out := impl.Ssa{Values: 12, Parts: []impl.Part{{Go: 1, Next: []int{1}, Args: [][]int{places(12)}}}}
	for _, b := range blocks {
		base := out.Values
		ofStep := func(at int) int {
			many := 0
			for _, x := range b.Code[:at] {
				_, makes := usedByHand(x)
				many += len(makes)
			}
			return base + 12 + many
		}
		valueAt := func(name int, at int) int {
			for at--; at >= 0; at-- {
				if _, makes := usedByHand(b.Code[at]); slices.Contains(makes, name) {
					return ofStep(at)
				}
			}
			return base + name
		}
		kept := func(many int) []int {
			var l []int
			for name := range many {
				l = append(l, valueAt(name, len(b.Code)))
			}
			return l
		}
		p := impl.Part{Params: kept(0), Go: b.Go}
		for name := range 12 {
			p.Params = append(p.Params, base+name)
		}
		for at, x := range b.Code {
			uses, makes := usedByHand(x)
			for i := range uses {
				*fieldsOf(&x)[2+i] = valueAt(uses[i], at)
			}
			if len(makes) > 0 {
				x.Dst = ofStep(at)
			}
			p.Code = append(p.Code, x)
		}
		if b.Go == 2 || b.Go == 5 {
			p.Test = valueAt(b.Test, len(b.Code))
		}
		for _, to := range b.Next {
			p.Next = append(p.Next, to+1)
			p.Args = append(p.Args, kept(12))
		}
		if b.Go == 3 {
			p.Args = [][]int{kept(3)}
		}
		out.Values = ofStep(len(b.Code))
		out.Parts = append(out.Parts, p)
	}
	return out
}

// handSsa goes from part to part; its names are values, those that have come to be.
type handSsa struct {
	handFlow
	words []int
	last  int
}

func (r *handSsa) follow(parts []impl.Part, fuel int) int {
	var handed []int
	for at := 0; len(r.begun) < fuel; {
		p := parts[at]
		r.begun, r.last = append(r.begun, at), at
		for i, value := range p.Params {
			r.names[value] = handed[i]
		}
		for _, x := range p.Code {
			if !r.plain(x) {
				return 2
			}
		}
		which, word := 0, r.names[p.Test]
		switch {
		case p.Go == 3:
			for i, value := range p.Args[0] {
				r.s.Locals[i] = r.names[value]
			}
			return 1
		case p.Go == 4:
			return 2
		case p.Go == 2 && word == 0:
			which = 1
		case p.Go == 5:
			which = min(word, len(p.Next)-1)
		}
		handed = nil
		for _, value := range p.Args[which] {
			handed = append(handed, r.names[value])
		}
		at = p.Next[which]
	}
	return 3
}

func ssaByHand(s impl.Ssa, state impl.State, fuel int) *handSsa {
	r := &handSsa{handFlow: handFlow{s: copyOfState(state), names: map[int]int{}}, last: -1}
	for value := range 12 {
		r.names[value] = 0
	}
	for value, word := range state.Locals {
		r.names[value] = word
	}
	clear(r.s.Locals)
	r.how = r.follow(s.Parts, fuel)
	for value := range s.Values {
		word, is := r.names[value]
		if !is {
			word = -1
		}
		r.words = append(r.words, word)
	}
	return r
}

// checkSsaRun holds a run of a good ssa from a good state against one by hand.
func checkSsaRun(t *testing.T, s impl.Ssa, state impl.State, fuel int) *handSsa {
	t.Helper()
	r := ssaByHand(s, state, fuel)
	before, stateBefore := copySsa(s), copyOfState(state)
	got, how, begun, ok := impl.RunSsa(s, state, fuel)
	if !sameStates(got, r.s) || how != r.how || begun != len(r.begun) || !ok {
		t.Fatalf("RunSsa(%v, %v, %d): %v %d %d %v, not %v %d %d", s, state, fuel, got, how, begun, ok, r.s, r.how, len(r.begun))
	}
	if !impl.GoodState(got) {
		t.Fatalf("RunSsa(%v, %v, %d): %v", s, state, fuel, got)
	}
	words, last, ok := impl.TraceSsa(s, state, fuel)
	if !slices.Equal(words, r.words) || last != r.last || !ok {
		t.Fatalf("TraceSsa(%v, %v, %d): %v %d %v, not %v %d", s, state, fuel, words, last, ok, r.words, r.last)
	}
	if !sameSsa(s, before) || !sameStates(state, stateBefore) {
		t.Fatalf("%v %v were %v %v", s, state, before, stateBefore)
	}
	return r
}

// checkNoSsaRun looks for the zero answer.
func checkNoSsaRun(t *testing.T, s impl.Ssa, state impl.State, fuel int) {
	t.Helper()
	before, stateBefore := copySsa(s), copyOfState(state)
	if got, how, begun, ok := impl.RunSsa(s, state, fuel); !isNothing(got) || how != 0 || begun != 0 || ok {
		t.Errorf("RunSsa(%v, %v, %d): %v %d %d %v", s, state, fuel, got, how, begun, ok)
	}
	if words, last, ok := impl.TraceSsa(s, state, fuel); len(words) != 0 || last != 0 || ok {
		t.Errorf("TraceSsa(%v, %v, %d): %v %d %v", s, state, fuel, words, last, ok)
	}
	if !sameSsa(s, before) || !sameStates(state, stateBefore) {
		t.Errorf("%v %v were %v %v", s, state, before, stateBefore)
	}
}

// checkTrim holds what is told of a good ssa's Params against what is worked out by hand; it tells the trimmed one, and how many went.
func checkTrim(t *testing.T, s impl.Ssa) (impl.Ssa, int) {
	t.Helper()
	want, gone := trimParamsByHand(s)
	if is, ok := impl.IsTrim(s); is != (gone == 0) || !ok {
		t.Fatalf("IsTrim(%v): %v %v", s, is, ok)
	}
	got, n, ok := impl.TrimParams(s)
	if !sameSsa(got, want) || n != gone || !ok {
		t.Fatalf("TrimParams(%v): %v %d %v, not %v %d", s, got, n, ok, want, gone)
	}
	if !impl.GoodSsa(got) || !goodSsaByHand(got) {
		t.Fatalf("TrimParams(%v): %v", s, got)
	}
	if is, ok := impl.IsTrim(got); !is || !ok {
		t.Fatalf("IsTrim(%v): %v %v", got, is, ok)
	}
	if again, n, ok := impl.TrimParams(got); !sameSsa(again, got) || n != 0 || !ok {
		t.Fatalf("TrimParams(%v): %v %d %v", got, again, n, ok)
	}
	return got, gone
}

// checkSsa holds all that is told of a good ssa against what is worked out by hand; it tells the trimmed one, and how many Params went.
func checkSsa(t *testing.T, s impl.Ssa) (impl.Ssa, int) {
	t.Helper()
	before := copySsa(s)
	if !impl.GoodSsa(s) || !goodSsaByHand(s) {
		t.Fatalf("GoodSsa(%v): %v, by hand %v", s, impl.GoodSsa(s), goodSsaByHand(s))
	}
	if got, ok := impl.ShapeOf(s); !sameLists(got.Next, graphByHand(blocksIn(s)).Next) || !impl.GoodGraph(got) || !ok {
		t.Fatalf("ShapeOf(%v): %v %v", s, got, ok)
	}
	if got, ok := impl.DefsOf(s); !slices.Equal(got, defsByHand(s)) || !ok {
		t.Fatalf("DefsOf(%v): %v %v, not %v", s, got, ok, defsByHand(s))
	}
	if got, ok := impl.UsesOf(s); !slices.Equal(got, usesByHand(s)) || !ok {
		t.Fatalf("UsesOf(%v): %v %v, not %v", s, got, ok, usesByHand(s))
	}
	trimmed, gone := checkTrim(t, s)
	if !sameSsa(s, before) {
		t.Fatalf("%v was %v", s, before)
	}
	return trimmed, gone
}

// checkNoSsa looks for the zero answer of every function that takes an ssa.
func checkNoSsa(t *testing.T, s impl.Ssa) {
	t.Helper()
	before := copySsa(s)
	if impl.GoodSsa(s) {
		t.Errorf("GoodSsa(%v)", s)
	}
	if got, ok := impl.ShapeOf(s); len(got.Next) != 0 || ok {
		t.Errorf("ShapeOf(%v): %v %v", s, got, ok)
	}
	if got, ok := impl.DefsOf(s); len(got) != 0 || ok {
		t.Errorf("DefsOf(%v): %v %v", s, got, ok)
	}
	if got, ok := impl.UsesOf(s); len(got) != 0 || ok {
		t.Errorf("UsesOf(%v): %v %v", s, got, ok)
	}
	if got, n, ok := impl.TrimParams(s); len(got.Parts) != 0 || got.Values != 0 || n != 0 || ok {
		t.Errorf("TrimParams(%v): %v %d %v", s, got, n, ok)
	}
	if is, ok := impl.IsTrim(s); is || ok {
		t.Errorf("IsTrim(%v): %v %v", s, is, ok)
	}
	for _, fuel := range []int{-1, 0, 1, 2000, 2001} {
		checkNoSsaRun(t, s, stateOf(1, 2), fuel)
	}
	checkNoSsaRun(t, s, impl.State{}, 5)
	if !sameSsa(s, before) {
		t.Errorf("%v was %v", s, before)
	}
}

// checkGoodSsa tells of any ssa at all whether it is good, and looks for the zero answer where it is not.
func checkGoodSsa(t *testing.T, s impl.Ssa) bool {
	t.Helper()
	if !goodSsaByHand(s) {
		checkNoSsa(t, s)
		return false
	}
	before := copySsa(s)
	if !impl.GoodSsa(s) || !sameSsa(s, before) {
		t.Errorf("GoodSsa(%v): false", s)
	}
	return true
}

// checkMake holds what is made of a flow against that made by hand; it tells whether there is one.
func checkMake(t *testing.T, f []impl.Block) (impl.Ssa, bool) {
	t.Helper()
	before := copyFlow(f)
	want := makeByHand(f)
	can := len(want.Parts) <= 11 && want.Values <= 250
	if !can {
		want = impl.Ssa{}
	}
	got, ok := impl.MakeSsa(f)
	if !sameSsa(got, want) || ok != can {
		t.Fatalf("MakeSsa(%v): %v %v, not %v %v", f, got, ok, want, can)
	}
	if !sameFlow(f, before) {
		t.Fatalf("%v was %v", f, before)
	}
	return got, ok
}

// checkNoMake looks for the zero answer.
func checkNoMake(t *testing.T, f []impl.Block) {
	t.Helper()
	before := copyFlow(f)
	if got, ok := impl.MakeSsa(f); len(got.Parts) != 0 || got.Values != 0 || ok {
		t.Errorf("MakeSsa(%v): %v %v", f, got, ok)
	}
	if !sameFlow(f, before) {
		t.Errorf("%v was %v", f, before)
	}
}

// checkSameWords looks whether a run without needless Params comes to the same words, but for those Params.
func checkSameWords(t *testing.T, s impl.Ssa, trimmed impl.Ssa, state impl.State, fuel int) {
	t.Helper()
	words, last, _ := impl.TraceSsa(s, state, fuel)
	got, then, ok := impl.TraceSsa(trimmed, state, fuel)
	if last != then || !ok {
		t.Fatalf("TraceSsa(%v, %v, %d): %d %v, not %d", trimmed, state, fuel, then, ok, last)
	}
	defs := defsByHand(trimmed)
	for value, word := range words {
		if defs[value] < 0 {
			word = -1
		}
		if got[value] != word {
			t.Fatalf("TraceSsa(%v, %v, %d): %v, not %v", trimmed, state, fuel, got, words)
		}
	}
}

// checkSameTrim is the second half of promise 9: without needless Params the same is done. It tells the run.
func checkSameTrim(t *testing.T, s impl.Ssa, trimmed impl.Ssa, state impl.State, fuel int) *handSsa {
	t.Helper()
	r := checkSsaRun(t, s, state, fuel)
	got, how, begun, ok := impl.RunSsa(trimmed, state, fuel)
	if !sameStates(got, r.s) || how != r.how || begun != len(r.begun) || !ok {
		t.Fatalf("RunSsa(%v, %v, %d): %v %d %d %v, not %v %d %d", trimmed, state, fuel, got, how, begun, ok, r.s, r.how, len(r.begun))
	}
	checkSameWords(t, s, trimmed, state, fuel)
	return r
}

// checkSameAsFlow is promise 9 of a flow and the ssa made of it, and of that without needless Params: one unit of fuel more suffices, for part 0. It tells how the flow came out.
func checkSameAsFlow(t *testing.T, f []impl.Block, s impl.Ssa, trimmed impl.Ssa, state impl.State, fuel int) int {
	t.Helper()
	want, wantHow, many, _ := impl.RunFlow(f, state, fuel)
	checkSameTrim(t, s, trimmed, state, fuel)
	for _, x := range []impl.Ssa{s, trimmed} {
		got, how, begun, ok := impl.RunSsa(x, state, min(fuel+1, impl.MaxFuel))
		if !ok {
			t.Fatalf("RunSsa(%v, %v, %d)", x, state, fuel+1)
		}
		if wantHow == impl.OutFuel || how == impl.OutFuel && fuel == impl.MaxFuel {
			continue
		}
		expect := make([]int, 8)
		if how == impl.OutEnd {
			copy(expect, want.Locals[:3])
		}
		if how != wantHow || begun != many+1 || !slices.Equal(got.Mem, want.Mem) || !slices.Equal(got.Told, want.Told) || !slices.Equal(got.Locals, expect) {
			t.Fatalf("RunSsa(%v, %v, %d): %v %d %d, but RunFlow(%v): %v %d %d", x, state, fuel+1, got, how, begun, f, want, wantHow, many)
		}
	}
	return wantHow
}

// Promise 9: the constants are as the document has them.
func TestSsaConstants(t *testing.T) {
	if got := []int{impl.MaxValues, impl.MaxParts, impl.MaxKept}; !slices.Equal(got, []int{250, 11, 3}) {
		t.Error(got)
	}
}

// goodCase is an ssa, and whether it is good.
type goodCase struct {
	values int
	text   string
	good   bool
}

func checkGoodCases(t *testing.T, cases []goodCase) {
	t.Helper()
	for _, c := range cases {
		s := ssa(c.values, c.text)
		if impl.GoodSsa(s) != c.good || goodSsaByHand(s) != c.good {
			t.Errorf("GoodSsa(%d, %s): %v, by hand %v", c.values, c.text, impl.GoodSsa(s), goodSsaByHand(s))
			continue
		}
		if !c.good {
			checkNoSsa(t, s)
			continue
		}
		trimmed, _ := checkSsa(t, s)
		for fuel := range 8 {
			checkSameTrim(t, s, trimmed, risingState(), fuel)
		}
	}
}

// Promises 9 and 19: Values from below MaxVars to beyond MaxValues.
func TestSsaGoodValues(t *testing.T) {
	for _, text := range []string{"end 0 1 2", "trap", "out 11, store 0 11, end 11 11 11", "if 11 1 1; trap"} {
		for _, values := range []int{math.MinInt, -1, 0, 1, 3, 11, 251, 252, 500, 1 << 32, math.MaxInt} {
			checkGoodCases(t, []goodCase{{values, text, false}})
		}
		for _, values := range []int{12, 13, 100, 249, 250} {
			checkGoodCases(t, []goodCase{{values, text, true}})
		}
	}
	checkGoodCases(t, []goodCase{
		{250, "const 249 65535, end 249 0 249", true}, {249, "const 249 65535, end 0 0 0", false}, {251, "const 249 65535, end 249 0 249", false},
		{13, "const 12 0, end 12 12 12", true}, {12, "const 12 0, end 0 0 0", false},
		{250, "to 1(0); with 249, trap", true}, {249, "to 1(0); with 249, trap", false},
	})
	// As many Params as there can be values.
	all := places(250)[12:]
	s := impl.Ssa{Values: 250, Parts: []impl.Part{part("to 1"), {Params: all, Go: impl.GoTo, Next: []int{1}, Args: [][]int{slices.Clone(all)}}}}
	s.Parts[0].Args[0] = make([]int, len(all))
	slices.Reverse(s.Parts[1].Args[0])
	trimmed, _ := checkSsa(t, s)
	checkSameTrim(t, s, trimmed, risingState(), 5)
	s.Values = 249
	checkNoSsa(t, s)
	s.Values, s.Parts[1].Params[0] = 250, 250
	checkNoSsa(t, s)
}

// rowOfParts is so many parts, each of which leads to the one behind it.
func rowOfParts(many int) impl.Ssa {
	s := impl.Ssa{Values: 12}
	for at := range many {
		s.Parts = append(s.Parts, impl.Part{Go: impl.GoTo, Next: []int{at + 1}, Args: [][]int{nil}})
	}
	if many > 0 {
		s.Parts[many-1] = part("end 0 1 2")
	}
	return s
}

// Promises 9 and 19: no part, MaxParts parts and more; 60 steps and more, in each part.
func TestSsaGoodSizes(t *testing.T) {
	for _, many := range []int{0, 12, 13, 64, 1000} {
		checkNoSsa(t, rowOfParts(many))
	}
	checkNoSsa(t, impl.Ssa{})
	checkNoSsa(t, impl.Ssa{Values: 12, Parts: []impl.Part{}})
	checkNoSsa(t, impl.Ssa{Values: 12, Parts: []impl.Part{{}}})
	for many := 1; many <= 11; many++ {
		s := rowOfParts(many)
		checkSsa(t, s)
		for at := range many {
			for _, long := range []int{0, 1, 59, 60} {
				s.Parts[at].Code = slices.Repeat([]impl.Flat{{Op: impl.FxOut}}, long)
				checkSsa(t, s)
				checkSsaRun(t, s, stateOf(1, 2), 20)
			}
			for _, long := range []int{61, 62, 5000} {
				s.Parts[at].Code = slices.Repeat([]impl.Flat{{Op: impl.FxOut}}, long)
				checkNoSsa(t, s)
			}
			s.Parts[at].Code = nil
		}
	}
	// 60 steps that all have a Dst, and 60 in each of MaxParts parts.
	s := ssa(72, "end 69 70 71")
	for i := range 60 {
		s.Parts[0].Code = append(s.Parts[0].Code, impl.Flat{Op: impl.FxTwo, Do: impl.WAdd, Dst: 12 + i, A: 11 + i, B: 1})
	}
	checkSsa(t, s)
	if r := checkSsaRun(t, s, risingState(), 1); !slices.Equal(r.s.Locals, []int{58, 59, 60, 0, 0, 0, 0, 0}) {
		t.Error(r.s)
	}
	s = rowOfParts(11)
	for at := range s.Parts {
		s.Parts[at].Code = slices.Repeat([]impl.Flat{{Op: impl.FxStore, A: 1, B: 2}}, 60)
	}
	checkSsa(t, s)
}

// Promises 9 and 19: parts that are not come to; Params in part 0; part 0 as a Next.
func TestSsaGoodShape(t *testing.T) {
	checkGoodCases(t, []goodCase{
		{12, "to 1; end 0 1 2", true},
		{12, "end 0 1 2; end 0 1 2", false},
		{12, "trap; trap", false},
		{12, "to 1; end 0 1 2; to 1", false},
		{12, "to 1; end 0 1 2; to 2", false},
		{12, "to 2; end 0 1 2; trap", false},
		{12, "to 2; end 0 1 2; to 1", true},
		{12, "to 1; to 1; to 3; to 2", false},
		{12, "to 1; if 0 1 2; to 3; to 2", true},
		{12, "to 3; to 2; to 1; to 1", true},
		{12, "table 0 1 2 3 4 5; trap; trap; trap; trap; trap", true},
		{12, "table 0 1 2 3 3 5; trap; trap; trap; trap; trap", false},
		{13, "with 12, end 0 1 2", false},
		{13, "with 12, to 1; end 0 1 2", false},
		{13, "to 1(0); with 12, end 0 1 2", true},
		{12, "to 0", false},
		{12, "to 1; to 0", false},
		{12, "to 1; to 1", true},
		{12, "if 0 0 1; trap", false},
		{12, "if 0 1 0; trap", false},
		{12, "if 0 1 1; trap", true},
		{12, "to 1; if 0 2 0; trap", false},
		{12, "to 1; if 0 0 2; trap", false},
		{12, "to 1; table 0 2 1 2 0; trap", false},
		{12, "to 1; table 0 2 1 2 1; trap", true},
		{13, "with 12, to 1; to 0(0)", false},
	})
}

// Promises 9 and 19: values that come to be twice, or are there at first.
func TestSsaGoodOnce(t *testing.T) {
	checkGoodCases(t, []goodCase{
		{14, "to 1(0 1); with 12 13, trap", true},
		{14, "to 1(0 1); with 12 12, trap", false},
		{14, "to 1(0 0); with 12 12, trap", false},
		{15, "to 1(0 1 2); with 12 13 12, trap", false},
		{14, "to 1(0); with 12, to 2(0); with 13, trap", true},
		{14, "to 1(0); with 12, to 2(0); with 12, trap", false},
		{14, "to 1(0); with 12, const 13 1, trap", true},
		{14, "to 1(0); with 12, const 12 1, trap", false},
		{14, "const 12 1, to 1(0); with 12, trap", false},
		{14, "const 12 1, to 1(0); with 13, trap", true},
		{14, "to 1(0); with 12, to 2; load 12 0, trap", false},
		{14, "const 12 1, const 13 1, trap", true},
		{14, "const 12 1, const 12 1, trap", false},
		{14, "const 12 1, copy 12 0, trap", false},
		{14, "const 12 1, add 12 0 0, trap", false},
		{14, "const 12 1, load 12 0, trap", false},
		{14, "load 13 0, copy 13 0, trap", false},
		{14, "add 13 0 0, out 13, add 13 0 0, trap", false},
		{14, "if 0 1 2; const 12 1, trap; const 12 2, trap", false},
		{14, "if 0 1 2; const 12 1, trap; const 13 2, trap", true},
		{14, "const 12 1, to 1; copy 12 0, trap", false},
		// no Dst: 0 is no value that comes to be
		{12, "out 1, out 1, store 2 2, store 2 2, trap", true},
		{13, "out 12, trap", false},
		{13, "store 0 12, trap", false},
		// there at first
		{14, "const 0 1, trap", false},
		{14, "const 11 1, trap", false},
		{14, "copy 7 0, trap", false},
		{14, "mul 8 0 0, trap", false},
		{14, "load 10 0, trap", false},
		{14, "to 1(0); with 0, trap", false},
		{14, "to 1(0); with 11, trap", false},
		{14, "to 1(0 1); with 12 7, trap", false},
	})
}

// Promises 9 and 19: uses ahead of what they use and behind it, in its own part.
func TestSsaGoodUses(t *testing.T) {
	cases := []goodCase{
		{13, "copy 12 12, trap", false},
		{13, "add 12 12 0, trap", false},
		{13, "add 12 0 12, trap", false},
		{13, "load 12 12, trap", false},
		{14, "const 12 1, end 12 0 0", true},
		{14, "const 12 1, end 13 0 0", false},
		{14, "const 12 1, end 0 0 12", true},
		{14, "const 12 1, end 0 0 13", false},
		{13, "if 12 1 1; const 12 1, trap", false},
		{13, "const 12 1, if 12 1 1; trap", true},
		{13, "const 12 1, table 12 1 1; trap", true},
		{13, "table 12 1 1; const 12 1, trap", false},
		{13, "table 12 1 1; trap", false},
		{14, "const 12 1, to 1(12); with 13, trap", true},
		{14, "to 1(12); with 13, trap", false},
		{14, "to 1(13); with 13, trap", false},
		{14, "to 1(0); with 12, to 1(12)", true},
		{15, "to 1(0 0); with 12 13, to 1(13 12)", true},
		{15, "to 1(0 12); with 12 13, to 1(13 12)", false},
		{14, "to 1(0); with 12, const 13 1, to 1(13)", true},
		{14, "to 1(0); with 12, copy 13 12, if 13 1(13) 1(12)", true},
	}
	for _, step := range []string{"out 12", "store 12 0", "store 0 12", "copy 13 12", "load 13 12", "add 13 12 0", "add 13 0 12", "eq 13 12 12"} {
		cases = append(cases,
			goodCase{14, "const 12 1, " + step + ", trap", true},
			goodCase{14, "const 12 1, out 1, " + step + ", out 1, trap", true},
			goodCase{14, step + ", const 12 1, trap", false},
			goodCase{14, step + ", trap", false},
			goodCase{14, "to 1(3); with 12, " + step + ", trap", true},
			goodCase{15, "to 1(3); with 14, " + step + ", trap", false},
		)
	}
	checkGoodCases(t, cases)
}

// Promises 9 and 19: uses of what comes to be in another part, that dominates their own, or does not.
func TestSsaGoodDominated(t *testing.T) {
	checkGoodCases(t, []goodCase{
		{13, "const 12 1, to 1; out 12, trap", true},
		{13, "const 12 1, to 1; to 2; to 3; out 12, end 12 12 12", true},
		{13, "out 12, to 1; const 12 1, trap", false},
		{13, "to 1; out 12, to 2; const 12 1, to 1", false},
		{13, "to 1; const 12 1, to 2; out 12, to 1", true},
		{13, "to 2; out 12, to 2; const 12 1, to 1", true},
		{13, "if 0 1 2; const 12 1, to 3; to 3; out 12, trap", false},
		{13, "if 0 1 2; const 12 1, to 3; trap; out 12, trap", true},
		{13, "if 0 1 2; const 12 1, to 3; out 12, to 3; trap", false},
		{14, "if 0 1 2; const 12 1, to 3(12); to 3(4); with 13, out 13, trap", true},
		{14, "if 0 1 2; const 12 1, to 3(12); to 3(12); with 13, out 13, trap", false},
		{14, "if 0 1 2; const 12 1, to 3(4); to 3(12); with 13, out 13, trap", false},
		{13, "to 1(0); with 12, to 2; out 12, trap", true},
		{13, "if 0 1(0) 2; with 12, to 2; out 12, trap", false},
		{13, "if 0 1(0) 2; with 12, to 2; if 12 3 3; trap", false},
		{13, "to 1(0); with 12, to 2; if 12 3 3; trap", true},
		{13, "to 1(0); with 12, to 2; end 0 12 0", true},
		{13, "if 0 1(0) 2; with 12, to 2; end 0 12 0", false},
		{14, "to 1(0); with 12, to 2; const 13 5, if 13 1(13) 3; end 13 12 0", true},
		{14, "to 1(0); with 12, if 0 2 3; const 13 5, to 1(13); end 13 12 0", false},
		// two ways into a ring: neither part of it dominates the other one
		{14, "if 0 1 2; const 12 1, to 2; const 13 1, to 1", true},
		{14, "if 0 1 2; const 12 1, to 2; copy 13 12, to 1", false},
		{14, "if 0 1 2; copy 12 13, to 2; const 13 1, to 1", false},
		// a value of a part that is reached but by itself
		{13, "to 1; out 12, if 0 1 2; const 12 1, trap", false},
		{14, "to 1; out 13, const 12 1, if 12 1 2; copy 13 12, to 1", false},
	})
}

// partWith is a part that makes a value and goes on to these.
func partWith(value int, next []int) impl.Part {
	p := impl.Part{Code: []impl.Flat{{Op: impl.FxConst, Dst: value, N: value}}, Next: next, Args: make([][]int, len(next))}
	p.Go = []int{impl.GoTrap, impl.GoTo, impl.GoIf}[min(len(next), 2)]
	if len(next) > 2 {
		p.Go = impl.GoTable
	}
	return p
}

// Promise 9: in every shape of up to four parts each part uses what each other one makes: it is good just if that dominates it.
func TestSsaGoodAllSmall(t *testing.T) {
	good, not := 0, 0
	for many := 1; many <= 4; many++ {
		allGraphs(many, func(g impl.Graph) {
			w := webOf(g)
			if slices.ContainsFunc(w, func(row []bool) bool { return row[0] }) || slices.Contains(w.comeTo(-1), false) {
				return
			}
			dominators := dominatorsByHand(g)
			s := impl.Ssa{Values: 12 + many}
			for at, next := range g.Next {
				s.Parts = append(s.Parts, partWith(12+at, next))
			}
			if !impl.GoodSsa(s) {
				t.Fatalf("GoodSsa(%v): false", s)
			}
			for at := range many {
				for other := range many {
					user := copySsa(s)
					user.Parts[at].Code = slices.Insert(user.Parts[at].Code, 0, impl.Flat{Op: impl.FxOut, A: 12 + other})
					want := at != other && slices.Contains(dominators[at], other)
					if impl.GoodSsa(user) != want || goodSsaByHand(user) != want {
						t.Fatalf("GoodSsa(%v): not %v", user, want)
					}
					if want {
						good++
					} else {
						not++
					}
				}
			}
		})
	}
	if good < 1000 || not < 1000 {
		t.Errorf("so few of: %d %d", good, not)
	}
}

// fullSsa is a good ssa with each kind of step and of Go.
func fullSsa() impl.Ssa {
	return ssa(30, "const 12 3, copy 13 1, to 1(12 2); with 14 15, add 16 14 15, load 17 13, store 12 16, out 17, if 16 2(14) 3; with 18, sub 19 18 2, table 19 1(19 18) 4(1 16) 3 1(15 15); trap; with 20 21, mul 22 20 21, end 22 14 3")
}

// change is one thing that is done to an ssa.
type change struct {
	what string
	do   func(s *impl.Ssa)
	good bool
}

// Promises 9 and 19: one thing of a good ssa with each kind of step and of Go is changed: how many Args there are, and how many lists of them; numbers of values and of parts at their ends and beyond.
func TestSsaGoodChanged(t *testing.T) {
	trimmed, _ := checkSsa(t, fullSsa())
	for a := range 5 {
		for fuel := range 12 {
			checkSameTrim(t, fullSsa(), trimmed, stateOf(a, 3), fuel)
		}
	}
	for _, c := range []change{
		{"nothing", func(s *impl.Ssa) {}, true},
		{"an Arg more", func(s *impl.Ssa) { s.Parts[0].Args[0] = []int{12, 2, 2} }, false},
		{"an Arg less", func(s *impl.Ssa) { s.Parts[0].Args[0] = []int{12} }, false},
		{"no Args", func(s *impl.Ssa) { s.Parts[0].Args[0] = nil }, false},
		{"no list of Args", func(s *impl.Ssa) { s.Parts[0].Args = nil }, false},
		{"a list of Args more", func(s *impl.Ssa) { s.Parts[0].Args = [][]int{{12, 2}, {12, 2}} }, false},
		{"an empty list of Args more", func(s *impl.Ssa) { s.Parts[0].Args = [][]int{{12, 2}, nil} }, false},
		{"another Arg", func(s *impl.Ssa) { s.Parts[0].Args[0] = []int{13, 11} }, true},
		{"Args of an if change places", func(s *impl.Ssa) { s.Parts[1].Args = [][]int{nil, {14}} }, false},
		{"an if's second Args", func(s *impl.Ssa) { s.Parts[1].Args[1] = []int{14} }, false},
		{"an if's second list", func(s *impl.Ssa) { s.Parts[1].Args = [][]int{{14}} }, false},
		{"an if's third list", func(s *impl.Ssa) { s.Parts[1].Args = [][]int{{14}, nil, nil} }, false},
		{"a table's last list", func(s *impl.Ssa) { s.Parts[2].Args = s.Parts[2].Args[:3] }, false},
		{"a table's list more", func(s *impl.Ssa) { s.Parts[2].Args = append(s.Parts[2].Args, nil) }, false},
		{"a table's Next more", func(s *impl.Ssa) { s.Parts[2].Next = append(s.Parts[2].Next, 3) }, false},
		{"a table's Next and list more", func(s *impl.Ssa) {
			s.Parts[2].Next, s.Parts[2].Args = append(s.Parts[2].Next, 3), append(s.Parts[2].Args, nil)
		}, true},
		{"Args of a trap", func(s *impl.Ssa) { s.Parts[3].Args = [][]int{{0, 0, 0}} }, false},
		{"an empty list of a trap", func(s *impl.Ssa) { s.Parts[3].Args = [][]int{nil} }, false},
		{"no lists of a trap", func(s *impl.Ssa) { s.Parts[3].Args = [][]int{} }, true},
		{"an end's Args: 2", func(s *impl.Ssa) { s.Parts[4].Args[0] = []int{1, 2} }, false},
		{"an end's Args: 4", func(s *impl.Ssa) { s.Parts[4].Args[0] = []int{1, 2, 3, 4} }, false},
		{"an end's Args: none", func(s *impl.Ssa) { s.Parts[4].Args[0] = nil }, false},
		{"an end's list: none", func(s *impl.Ssa) { s.Parts[4].Args = nil }, false},
		{"an end's lists: two", func(s *impl.Ssa) { s.Parts[4].Args = [][]int{{1, 2, 3}, {1, 2, 3}} }, false},
		{"an end's lists: an empty one more", func(s *impl.Ssa) { s.Parts[4].Args = [][]int{{1, 2, 3}, nil} }, false},
		{"an end's Args: other ones", func(s *impl.Ssa) { s.Parts[4].Args[0] = []int{22, 22, 13} }, true},
		{"a Param more", func(s *impl.Ssa) { s.Parts[1].Params = []int{14, 15, 29} }, false},
		{"a Param less", func(s *impl.Ssa) { s.Parts[4].Params = []int{20} }, false},
		{"a trap's Params", func(s *impl.Ssa) { s.Parts[3].Params = []int{29} }, false},
		{"a Test that a GoTo has", func(s *impl.Ssa) { s.Parts[0].Test = 1 }, false},
		{"a Test that a trap has", func(s *impl.Ssa) { s.Parts[3].Test = 1 }, false},
		{"a Test that an end has", func(s *impl.Ssa) { s.Parts[4].Test = 12 }, false},
		{"Next of a trap", func(s *impl.Ssa) { s.Parts[3].Next = []int{1} }, false},
		{"Next of an end", func(s *impl.Ssa) { s.Parts[4].Next = []int{3} }, false},
		{"Next of an end, its Args", func(s *impl.Ssa) { s.Parts[4].Next, s.Parts[4].Args = []int{3}, [][]int{nil} }, false},
		{"a GoTo's Next: none", func(s *impl.Ssa) { s.Parts[0].Next, s.Parts[0].Args = nil, nil }, false},
		{"a GoTo's Next: two", func(s *impl.Ssa) { s.Parts[0].Next, s.Parts[0].Args = []int{1, 3}, [][]int{{12, 2}, nil} }, false},
		{"that many by an if", func(s *impl.Ssa) {
			s.Parts[0].Next, s.Parts[0].Args, s.Parts[0].Go = []int{1, 3}, [][]int{{12, 2}, nil}, impl.GoIf
		}, true},
		{"an if's Next: three", func(s *impl.Ssa) { s.Parts[1].Next, s.Parts[1].Args = []int{2, 3, 3}, [][]int{{14}, nil, nil} }, false},
		{"that many by a table", func(s *impl.Ssa) {
			s.Parts[1].Next, s.Parts[1].Args, s.Parts[1].Go = []int{2, 3, 3}, [][]int{{14}, nil, nil}, impl.GoTable
		}, true},
		{"an end that is no Go", func(s *impl.Ssa) { s.Parts[4].Go = 6 }, false},
		{"a trap that is no Go", func(s *impl.Ssa) { s.Parts[3].Go = 0 }, false},
		{"a trap that ends", func(s *impl.Ssa) { s.Parts[3].Go = impl.GoEnd }, false},
		{"a trap that ends with Args", func(s *impl.Ssa) { s.Parts[3].Go, s.Parts[3].Args = impl.GoEnd, [][]int{{14, 15, 17}} }, true},
	} {
		s := fullSsa()
		c.do(&s)
		if impl.GoodSsa(s) != c.good || goodSsaByHand(s) != c.good {
			t.Errorf("%s: %v, by hand %v", c.what, impl.GoodSsa(s), goodSsaByHand(s))
		}
		checkGoodSsa(t, s)
	}
}

// numbersIn tells all numbers of an ssa, such that they can be changed.
func numbersIn(s *impl.Ssa) []*int {
	out := []*int{&s.Values}
	for k := range s.Parts {
		p := &s.Parts[k]
		out = append(out, &p.Go, &p.Test)
		for _, list := range append([][]int{p.Params, p.Next}, p.Args...) {
			for i := range list {
				out = append(out, &list[i])
			}
		}
		for i := range p.Code {
			out = append(append(out, &p.Code[i].Op), fieldsOf(&p.Code[i])...)
		}
	}
	return out
}

// Promises 9 and 19: each number of some good ssas from below what it may be to beyond it.
func TestSsaGoodNumbers(t *testing.T) {
	good := 0
	for _, s := range []impl.Ssa{
		fullSsa(),
		ssa(14, "copy 12 3, if 12 1(12) 1(4); with 13, store 13 12, out 13, end 13 12 0"),
		ssa(16, "to 1(1 2); with 12 13, sub 14 12 13, load 15 14, table 15 1(13 12) 2 1(12 15); end 12 13 15"),
	} {
		some := append(places(16), s.Values-1, s.Values, math.MinInt, -1, 18, 22, 28, 29, 30, 31, 249, 250, 251, 65535, 65536, 65536+1, 1<<32, math.MaxInt)
		for i := range numbersIn(&s) {
			for _, n := range some {
				spoilt := copySsa(s)
				*numbersIn(&spoilt)[i] = n
				if checkGoodSsa(t, spoilt) {
					good++
				}
			}
		}
	}
	if good < 200 {
		t.Error("so few are good: ", good)
	}
}

// Promises 9 and 19: each Go with as many Next as it may have, and with fewer and more.
func TestSsaGoodWays(t *testing.T) {
	for _, how := range []int{math.MinInt, -1, 0, 1, 2, 3, 4, 5, 6, 256 + 1, math.MaxInt} {
		for many := range 9 {
			for _, test := range []int{math.MinInt, -1, 0, 1, 11, 12, 13, 14, math.MaxInt} {
				p := impl.Part{Code: part("const 12 1, trap").Code, Go: how, Test: test, Next: slices.Repeat([]int{1}, many), Args: make([][]int, many)}
				for i := range p.Args {
					p.Args[i] = []int{12}
				}
				if how == impl.GoEnd {
					p.Args = append(p.Args, []int{12, 0, 1})
				}
				s := impl.Ssa{Values: 14, Parts: []impl.Part{p, part("with 13, trap")}}
				checkGoodSsa(t, s)
				checkGoodSsa(t, impl.Ssa{Values: 14, Parts: s.Parts[:1]})
				for at := range many {
					for _, to := range []int{math.MinInt, -1, 0, 2, 3, 11, math.MaxInt} {
						spoilt := copySsa(s)
						spoilt.Parts[0].Next[at] = to
						checkGoodSsa(t, spoilt)
					}
				}
			}
		}
		checkGoodSsa(t, impl.Ssa{Values: 14, Parts: []impl.Part{{Go: how, Next: make([]int, 10000), Args: make([][]int, 10000)}}})
	}
}

// Promises 9 and 19: each field of each kind of flat step from below what it may be to beyond it.
func TestSsaGoodFields(t *testing.T) {
	some := []int{math.MinInt, -65536, -1, 0, 1, 3, 4, 9, 10, 11, 12, 13, 14, 15, 16, 17, 18, 249, 250, 65535, 65536, math.MaxInt}
	for op := -1; op <= 8; op++ {
		for i := range 5 {
			for _, n := range some {
				x := impl.Flat{Op: op}
				if op == impl.FxTwo {
					x.Do = impl.WAdd
				}
				if op <= impl.FxLoad {
					x.Dst = 15
				}
				*fieldsOf(&x)[i] = n
				s := ssa(17, "const 12 3, to 1(1); with 13, const 14 1, to 2; end 0 0 0")
				s.Parts[1].Code = append(s.Parts[1].Code, x)
				checkGoodSsa(t, s)
				s.Parts[1].Code[0], s.Parts[1].Code[1] = s.Parts[1].Code[1], s.Parts[1].Code[0]
				checkGoodSsa(t, s)
			}
		}
	}
}

// Promise 9: shapes, where values come to be, and how often they are used.
func TestSsaTold(t *testing.T) {
	for _, c := range []struct {
		values int
		text   string
		shape  string
		defs   string
		uses   string
	}{
		{12, "trap", "", "0 0 0 0 0 0 0 0 0 0 0 0", "0 0 0 0 0 0 0 0 0 0 0 0"},
		{12, "end 0 1 2", "", "0 0 0 0 0 0 0 0 0 0 0 0", "1 1 1 0 0 0 0 0 0 0 0 0"},
		{14, "end 3 3 11", "", "0 0 0 0 0 0 0 0 0 0 0 0 -1 -1", "0 0 0 2 0 0 0 0 0 0 0 1 0 0"},
		// Test is 0 where a part has none: it is no use; nor are Do, Dst and N, which count other things
		{13, "const 12 5, to 1; to 2; trap", "1; 2;", "0 0 0 0 0 0 0 0 0 0 0 0 0", "0 0 0 0 0 0 0 0 0 0 0 0 0"},
		{14, "add 13 3 3, out 13, store 13 13, trap", "", "0 0 0 0 0 0 0 0 0 0 0 0 -1 0", "0 0 0 2 0 0 0 0 0 0 0 0 0 3"},
		{15, "load 14 1, copy 12 14, sub 13 12 14, trap", "", "0 0 0 0 0 0 0 0 0 0 0 0 0 0 0", "0 1 0 0 0 0 0 0 0 0 0 0 1 0 2"},
		// two equal targets
		{13, "if 0 1(0) 1(0); with 12, trap", "1;", "0 0 0 0 0 0 0 0 0 0 0 0 1", "3 0 0 0 0 0 0 0 0 0 0 0 0"},
		{14, "table 2 1(2) 1(3) 2(4) 1(2) 2(2) 2(0); with 12, to 2(12); with 13, end 13 13 2", "1 2; 2;", "0 0 0 0 0 0 0 0 0 0 0 0 1 2", "1 0 5 1 1 0 0 0 0 0 0 0 1 2"},
		{12, "to 2; table 0 2 1 2 1 2; to 1", "2; 1 2; 1", "0 0 0 0 0 0 0 0 0 0 0 0", "1 0 0 0 0 0 0 0 0 0 0 0"},
		// numbers in no order
		{20, "const 19 1, to 2(19); with 12, end 12 17 19; with 15, copy 17 15, if 17 1(17) 2(17)", "2;; 1 2", "0 0 0 0 0 0 0 0 0 0 0 0 1 -1 -1 2 -1 2 -1 0", "0 0 0 0 0 0 0 0 0 0 0 0 1 0 0 1 0 4 0 2"},
		// a Param that is handed to itself
		{14, "to 1(4 5); with 13 12, if 13 1(13 13) 2; trap", "1; 1 2;", "0 0 0 0 0 0 0 0 0 0 0 0 1 1", "0 0 0 0 1 1 0 0 0 0 0 0 0 3"},
	} {
		s := ssa(c.values, c.text)
		checkSsa(t, s)
		if got, ok := impl.ShapeOf(s); !sameLists(got.Next, lists(c.shape)) || !ok {
			t.Errorf("ShapeOf(%s): %v %v, not %s", c.text, got, ok, c.shape)
		}
		if got, ok := impl.DefsOf(s); !slices.Equal(got, numbersOf(strings.Fields(c.defs))) || !ok {
			t.Errorf("DefsOf(%s): %v %v, not %s", c.text, got, ok, c.defs)
		}
		if got, ok := impl.UsesOf(s); !slices.Equal(got, numbersOf(strings.Fields(c.uses))) || !ok {
			t.Errorf("UsesOf(%s): %v %v, not %s", c.text, got, ok, c.uses)
		}
	}
}

// ssaCase is an ssa, run from a state whose locals are 0 to 7 and whose Mem is 100 to 115: how it comes out, which parts are begun, what is told, and the first locals in the end.
type ssaCase struct {
	values int
	text   string
	how    int
	begun  string
	told   string
	kept   string
}

// checkSsaCases looks at the case, and then at the same ssa with all fuels up to what it needs and two more.
func checkSsaCases(t *testing.T, cases []ssaCase) {
	t.Helper()
	for _, c := range cases {
		s, state := ssa(c.values, c.text), risingState()
		begun, told, locals := numbersOf(strings.Fields(c.begun)), numbersOf(strings.Fields(c.told)), make([]int, 8)
		copy(locals, numbersOf(strings.Fields(c.kept)))
		got, how, many, ok := impl.RunSsa(s, state, impl.MaxFuel)
		if how != c.how || many != len(begun) || !slices.Equal(got.Told, told) || !slices.Equal(got.Locals, locals) || !ok {
			t.Errorf("RunSsa(%s): %d %d %v %v %v, not %v", c.text, how, many, got.Told, got.Locals, ok, c)
		}
		trimmed, _ := checkSsa(t, s)
		for fuel := range len(begun) + 3 {
			r := checkSameTrim(t, s, trimmed, state, fuel)
			if want := begun[:min(fuel, len(begun))]; !slices.Equal(r.begun, want) {
				t.Errorf("%s: with %d begun %v, not %v", c.text, fuel, r.begun, want)
			}
			wantHow := c.how
			if fuel < len(begun) {
				wantHow = impl.OutFuel
			}
			if r.how != wantHow || fuel < len(begun) && !slices.Equal(r.s.Locals, make([]int, 8)) {
				t.Errorf("%s: with %d %d %v, not %d", c.text, fuel, r.how, r.s.Locals, wantHow)
			}
		}
	}
}

// Promise 9: what parts do, and what is left in the locals; a trap leaves none.
func TestSsaRuns(t *testing.T) {
	checkSsaCases(t, []ssaCase{
		{12, "end 0 1 2", 1, "0", "", "0 1 2"},
		{12, "end 3 7 8", 1, "0", "", "3 7 0"},
		{12, "end 7 7 7", 1, "0", "", "7 7 7"},
		{12, "trap", 2, "0", "", ""},
		{12, "out 7, out 8, out 11, trap", 2, "0", "7 0 0", ""},
		{14, "const 12 65535, copy 13 12, out 13, end 13 12 1", 1, "0", "65535", "65535 65535 1"},
		{13, "add 12 3 4, out 12, end 12 0 0", 1, "0", "7", "7 0 0"},
		{13, "sub 12 3 4, out 12, end 0 12 0", 1, "0", "65535", "0 65535 0"},
		{13, "sub 12 4 3, out 12, end 0 0 12", 1, "0", "1", "0 0 1"},
		{13, "mul 12 6 7, out 12, end 0 0 12", 1, "0", "42", "0 0 42"},
		{13, "div 12 7 2, out 12, end 0 0 12", 1, "0", "3", "0 0 3"},
		{13, "less 12 1 2, out 12, end 0 0 12", 1, "0", "1", "0 0 1"},
		{13, "eq 12 1 2, out 12, end 1 1 12", 1, "0", "0", "1 1 0"},
		{13, "load 12 5, out 12, end 12 0 0", 1, "0", "105", "105 0 0"},
		{13, "store 5 6, load 12 5, out 12, end 12 0 0", 1, "0", "6", "6 0 0"},
		// steps that trap, and what was done ahead of them
		{13, "out 3, div 12 3 0, out 4, end 3 3 3", 2, "0", "3", ""},
		{14, "const 12 16, out 3, load 13 12, out 4, end 3 3 3", 2, "0", "3", ""},
		{14, "const 12 15, out 3, load 13 12, out 13, end 13 3 3", 1, "0", "3 115", "115 3 3"},
		{13, "const 12 16, store 1 7, store 12 1, out 4, end 3 3 3", 2, "0", "", ""},
		// ways
		{12, "to 1; out 1, to 2; out 2, end 4 5 6", 1, "0 1 2", "1 2", "4 5 6"},
		{12, "if 1 1 2; out 1, end 1 1 1; out 2, end 2 2 2", 1, "0 1", "1", "1 1 1"},
		{12, "if 0 1 2; out 1, end 1 1 1; out 2, end 2 2 2", 1, "0 2", "2", "2 2 2"},
		{12, "table 0 1 2 3; out 1, trap; out 2, trap; out 3, trap", 2, "0 1", "1", ""},
		{12, "table 1 1 2 3; out 1, trap; out 2, trap; out 3, trap", 2, "0 2", "2", ""},
		{12, "table 2 1 2 3; out 1, trap; out 2, trap; out 3, trap", 2, "0 3", "3", ""},
		{12, "table 3 1 2 3; out 1, trap; out 2, trap; out 3, trap", 2, "0 3", "3", ""},
		{12, "table 7 1 2 3; out 1, trap; out 2, trap; out 3, trap", 2, "0 3", "3", ""},
		// what is handed depends on the way, also where two ways lead to one part
		{13, "if 0 1(3) 1(4); with 12, out 12, end 12 12 0", 1, "0 1", "4", "4 4 0"},
		{13, "if 1 1(3) 1(4); with 12, out 12, end 12 12 0", 1, "0 1", "3", "3 3 0"},
		{13, "table 0 1(3) 1(4) 1(5); with 12, out 12, trap", 2, "0 1", "3", ""},
		{13, "table 1 1(3) 1(4) 1(5); with 12, out 12, trap", 2, "0 1", "4", ""},
		{13, "table 6 1(3) 1(4) 1(5); with 12, out 12, trap", 2, "0 1", "5", ""},
		{14, "if 3 1 2; const 12 5, to 3(12); to 3(6); with 13, end 13 3 13", 1, "0 1 3", "", "5 3 5"},
		{14, "if 0 1 2; const 12 5, to 3(12); to 3(6); with 13, end 13 3 13", 1, "0 2 3", "", "6 3 6"},
	})
}

// Promise 9: loops; Params are handed over at once, two that change places and three that go round.
func TestSsaRunsAtOnce(t *testing.T) {
	checkSsaCases(t, []ssaCase{
		{17, "const 15 1, to 1(1 2 3); with 12 13 14, out 12, out 13, sub 16 14 15, if 16 1(13 12 16) 2; end 12 13 14", 1, "0 1 1 1 2", "1 2 2 1 1 2", "1 2 1"},
		{18, "const 16 1, to 1(4 5 6 3); with 12 13 14 15, out 12, sub 17 15 16, if 17 1(13 14 12 17) 2; end 12 13 14", 1, "0 1 1 1 2", "4 5 6", "6 4 5"},
		{18, "const 16 1, to 1(4 5 6 3); with 15 14 13 12, out 14, sub 17 12 16, if 17 1(13 15 14 17) 2; end 15 14 13", 1, "0 1 1 1 2", "5 4 6", "5 6 4"},
		// a Param becomes the word that another one had, and that one's becomes something new
		{18, "const 15 1, to 1(0 1 5); with 12 13 14, add 16 12 13, sub 17 14 15, out 16, if 17 1(13 16 17) 2; end 16 13 12", 1, "0 1 1 1 1 1 2", "1 2 3 5 8", "8 5 3"},
		// two parts that hand over to each other
		{16, "to 1(3 5); with 12 13, out 12, if 12 2(13 12) 3; with 14 15, out 14, to 1(0 14); end 12 13 0", 1, "0 1 2 1 3", "3 5 0", "0 5 0"},
		{15, "to 1(2 0); with 12 13, out 13, if 12 2 3; const 14 9, to 1(0 14); end 13 12 1", 1, "0 1 2 1 3", "0 9", "9 0 1"},
		// a trap in the second round
		{15, "const 14 6, to 1(6); with 12, out 12, div 13 14 12, to 1(0)", 2, "0 1 1", "6 0", ""},
	})
}

// Promise 9: a loop that does not end, with fuel up to MaxFuel; telling beyond MaxTold traps.
func TestSsaRunsLong(t *testing.T) {
	round := ssa(14, "to 1(1); with 12, add 13 12 1, to 1(13)")
	for _, fuel := range []int{0, 1, 2, 3, 1999, 2000} {
		r := checkSsaRun(t, round, risingState(), fuel)
		if r.how != impl.OutFuel || len(r.begun) != fuel || fuel > 1 && r.words[13] != fuel {
			t.Error(fuel, r.how, r.words)
		}
	}
	telling := ssa(13, "to 1(3); with 12, out 12, to 1(12)")
	for _, fuel := range []int{100, 101, 102, 103, 2000} {
		r := checkSsaRun(t, telling, risingState(), fuel)
		if want := min(fuel, 102); len(r.begun) != want || len(r.s.Told) != min(fuel-1, 100) || r.how == impl.OutTrap != (fuel > 101) {
			t.Error(fuel, r.how, len(r.begun), len(r.s.Told))
		}
	}
	for _, fuel := range []int{math.MinInt, -2000, -1, 2001, 2002, 1 << 32, math.MaxInt} {
		checkNoSsaRun(t, round, risingState(), fuel)
		checkNoSsaRun(t, ssa(12, "end 0 1 2"), risingState(), fuel)
	}
	for _, state := range wrongStates() {
		checkNoSsaRun(t, round, state, 3)
		checkNoSsaRun(t, ssa(12, "trap"), state, 0)
	}
	full := fullState()
	if r := checkSsaRun(t, ssa(12, "to 1; out 3, end 0 1 2"), full, 5); r.how != impl.OutTrap || !slices.Equal(r.s.Told, full.Told) {
		t.Error(r.how, r.s)
	}
	if r := checkSsaRun(t, ssa(12, "to 1; end 0 1 2"), full, 5); r.how != impl.OutEnd || !slices.Equal(r.s.Locals, []int{5, 5, 5, 0, 0, 0, 0, 0}) {
		t.Error(r.how, r.s)
	}
}

// Promise 9: the words of values where a run ends, and the part begun last. The words of values there at first come first, and are the same throughout.
func TestSsaTraces(t *testing.T) {
	loop := "const 12 1, to 1(3 4); with 13 14, sub 15 13 12, if 15 1(15 13) 2; copy 16 14, div 17 16 8, out 17, trap"
	for _, c := range []struct {
		values int
		text   string
		fuel   int
		words  string // from value 12 on
		last   int
	}{
		{12, "end 0 1 2", 0, "", -1},
		{12, "end 0 1 2", 1, "", 0},
		{12, "trap", 0, "", -1},
		{12, "trap", 9, "", 0},
		{12, "to 1; trap", 1, "", 0},
		{12, "to 1; trap", 2, "", 1},
		{15, "const 13 7, end 0 1 2", 0, "-1 -1 -1", -1},
		{15, "const 13 7, end 0 1 2", 1, "-1 7 -1", 0},
		{19, loop, 0, "-1 -1 -1 -1 -1 -1 -1", -1},
		{19, loop, 1, "1 -1 -1 -1 -1 -1 -1", 0},
		{19, loop, 2, "1 3 4 2 -1 -1 -1", 1},
		{19, loop, 3, "1 2 3 1 -1 -1 -1", 1},
		{19, loop, 4, "1 1 2 0 -1 -1 -1", 1},
		{19, loop, 5, "1 1 2 0 2 -1 -1", 2},
		{19, loop, 6, "1 1 2 0 2 -1 -1", 2},
		// a trap in the second round: what the first one made is there
		{15, "const 14 6, to 1(6); with 12, div 13 14 12, to 1(0)", 2, "6 1 6", 1},
		{15, "const 14 6, to 1(6); with 12, div 13 14 12, to 1(0)", 3, "0 1 6", 1},
		{15, "const 14 6, to 1(6); with 12, div 13 14 12, to 1(0)", 2000, "0 1 6", 1},
		// parts that are not begun
		{15, "if 0 1(3) 2; with 12, const 13 5, trap; const 14 6, trap", 5, "-1 -1 6", 2},
		{15, "if 1 1(3) 2; with 12, const 13 5, trap; const 14 6, trap", 5, "3 5 -1", 1},
		// Params that change places
		{14, "to 1(3 4); with 12 13, to 1(13 12)", 2, "3 4", 1},
		{14, "to 1(3 4); with 12 13, to 1(13 12)", 3, "4 3", 1},
		{14, "to 1(3 4); with 12 13, to 1(13 12)", 4, "3 4", 1},
		// where it goes on from part 0 its Params are not handed yet
		{13, "if 0 1(3) 1(4); with 12, end 12 12 12", 1, "-1", 0},
		{13, "if 0 1(3) 1(4); with 12, end 12 12 12", 2, "4", 1},
	} {
		s := ssa(c.values, c.text)
		want := append([]int{0, 1, 2, 3, 4, 5, 6, 7, 0, 0, 0, 0}, numbersOf(strings.Fields(c.words))...)
		if got, last, ok := impl.TraceSsa(s, risingState(), c.fuel); !slices.Equal(got, want) || last != c.last || !ok {
			t.Errorf("TraceSsa(%s, %d): %v %d %v, not %v %d", c.text, c.fuel, got, last, ok, want, c.last)
		}
		checkSsaRun(t, s, risingState(), c.fuel)
	}
}

// fromTo tells the numbers from one up to less than another, as words.
func fromTo(from int, to int) string {
	var words []string
	for n := from; n < to; n++ {
		words = append(words, strconv.Itoa(n))
	}
	return strings.Join(words, " ")
}

// Promise 9: what is made of small flows, written out: the numbers of the values, in order, and what is handed on.
func TestSsaMade(t *testing.T) {
	first, params := "to 1("+fromTo(0, 12)+");", "with "+fromTo(12, 24)+","
	for _, c := range []struct {
		flow   string
		values int
		text   string
	}{
		{"end", 24, params + "end 12 13 14"},
		{"trap", 24, params + "trap"},
		{"to 0", 24, params + "to 1(" + fromTo(12, 24) + ")"},
		{"out 0, out 11, end", 24, params + "out 12, out 23, end 12 13 14"},
		{"const 0 5, end", 25, params + "const 24 5, end 24 13 14"},
		{"const 2 5, out 2, const 2 6, out 2, end", 26, params + "const 24 5, out 24, const 25 6, out 25, end 12 13 25"},
		// a step uses what its names have just ahead of it, also that of its own Dst
		{"copy 1 1, copy 1 1, end", 26, params + "copy 24 13, copy 25 24, end 12 25 14"},
		{"add 0 0 1, sub 1 0 1, mul 0 0 0, end", 27, params + "add 24 12 13, sub 25 24 13, mul 26 24 24, end 26 25 14"},
		{"load 3 4, store 3 4, load 4 3, store 4 3, end", 26, params + "load 24 16, store 24 16, load 25 24, store 25 24, end 12 13 14"},
		{"copy 0 1, copy 1 2, copy 2 0, end", 27, params + "copy 24 13, copy 25 14, copy 26 24, end 24 25 26"},
		// Test is what its name has behind the Code; where there is none it is 0
		{"if 11 0 0", 24, params + "if 23 1(" + fromTo(12, 24) + ") 1(" + fromTo(12, 24) + ")"},
		{"const 0 1, to 0", 25, params + "const 24 1, to 1(24 " + fromTo(13, 24) + ")"},
		{"const 5 1, table 5 0 0 0", 25, params + "const 24 1, table 24 1(12 13 14 15 16 24 18 19 20 21 22 23) 1(12 13 14 15 16 24 18 19 20 21 22 23) 1(12 13 14 15 16 24 18 19 20 21 22 23)"},
		// two blocks
		{"const 3 1, out 3, to 1; out 3, end", 37, params + "const 24 1, out 24, to 2(12 13 14 24 " + fromTo(16, 24) + "); with " + fromTo(25, 37) + ", out 28, end 25 26 27"},
		{"if 0 1 1; trap", 36, params + "if 12 2(" + fromTo(12, 24) + ") 2(" + fromTo(12, 24) + "); with " + fromTo(24, 36) + ", trap"},
		{"to 1; const 0 1, if 0 1 0", 37, params + "to 2(" + fromTo(12, 24) + "); with " + fromTo(24, 36) + ", const 36 1, if 36 2(36 " + fromTo(25, 36) + ") 1(36 " + fromTo(25, 36) + ")"},
		// blocks that are not come to are not there
		{"end; const 1 1, to 0", 24, params + "end 12 13 14"},
		{"to 2; const 1 1, trap; const 1 7, end; to 1", 37, params + "to 2(" + fromTo(12, 24) + "); with " + fromTo(24, 36) + ", const 36 7, end 24 36 26"},
		{"if 0 3 2; to 0; trap; end", 48, params + "if 12 3(" + fromTo(12, 24) + ") 2(" + fromTo(12, 24) + "); with " + fromTo(24, 36) + ", trap; with " + fromTo(36, 48) + ", end 36 37 38"},
	} {
		f := flow(c.flow)
		got, ok := checkMake(t, f)
		if want := ssa(c.values, first+c.text); !sameSsa(got, want) || !ok {
			t.Errorf("MakeSsa(%s): %v %v, not %v", c.flow, got, ok, want)
		}
		trimmed, _ := checkSsa(t, got)
		for fuel := range 6 {
			checkSameAsFlow(t, f, got, trimmed, risingState(), fuel)
		}
	}
}

// Promises 9 and 19: flows of which one less than MaxParts blocks are come to, and MaxParts; as many values as MaxValues, and one more; flows that are not good.
func TestSsaMadeSizes(t *testing.T) {
	for many := 1; many <= 64; many++ {
		f := chain(make([]int, many), places(many))
		if _, ok := checkMake(t, f); ok != (many <= 10) {
			t.Error(many, ok)
		}
		// all but the first ones are not come to
		for _, some := range []int{1, 9, 10, 11, 12} {
			if some > many {
				continue
			}
			cut := copyFlow(f)
			cut[some-1] = impl.Block{Go: impl.GoTrap}
			if s, ok := checkMake(t, cut); ok != (some <= 10) || ok && len(s.Parts) != some+1 {
				t.Error(many, some, ok)
			}
		}
		f[many-1] = impl.Block{Go: impl.GoTo, Next: []int{many}}
		checkNoMake(t, f)
	}
	makes := slices.Repeat([]impl.Flat{{Op: impl.FxConst, Dst: 3, N: 9}}, 60)
	for _, c := range []struct{ blocks, dsts, rest int }{{10, 118, 0}, {10, 117, 0}, {10, 118, 300}, {9, 130, 100}, {8, 142, 0}, {3, 180, 0}, {1, 60, 0}} {
		for more := range 3 {
			f := chain(make([]int, c.blocks), places(c.blocks))
			left := c.dsts + more
			for at := range f {
				some := min(left, 60)
				f[at].Code = slices.Clone(makes[:some])
				left -= some
			}
			if left > 0 {
				continue
			}
			// steps without a Dst do not count
			rest := c.rest
			for at := range f {
				some := min(rest, 60-len(f[at].Code))
				f[at].Code = append(f[at].Code, slices.Repeat([]impl.Flat{{Op: impl.FxStore}}, some)...)
				rest -= some
			}
			values := 12 + 12*c.blocks + c.dsts + more
			s, ok := checkMake(t, f)
			if ok != (values <= 250) || ok && s.Values != values {
				t.Error(c, more, s.Values, ok)
			}
			if ok {
				trimmed, _ := checkSsa(t, s)
				checkSameAsFlow(t, f, s, trimmed, risingState(), 20)
			}
		}
	}
	for _, f := range [][]impl.Block{
		nil, {}, {{}}, flow("to 1"), flow("end; to 2"), flow("if 0 0; end"), flow("const 12 0, end"), flow("out -1, end"), flow("end; const 0 65536, end"),
		flow("table 0 0 0 0 0 0 0 0"), {{Go: 3, Test: 1}}, {{Go: 3, Next: []int{0}}}, {{Go: 6}}, {{Code: []impl.Flat{{Op: 1, A: 1}}, Go: 3}},
		{{Code: make([]impl.Flat, 61), Go: 3}}, slices.Repeat(flow("end"), 65),
	} {
		checkNoMake(t, f)
	}
}

// Promise 9: which Params are needless, what stands in their place, and how many went.
func TestSsaTrims(t *testing.T) {
	for _, c := range []struct {
		values int
		text   string
		want   string // the same text where it is empty
		gone   int
	}{
		// none
		{12, "end 0 1 2", "", 0},
		{13, "if 0 1(0) 1(1); with 12, out 12, end 12 12 12", "", 0},
		{13, "if 0 1(3) 2; with 12, trap; to 1(4)", "", 0},
		{14, "to 1(3); with 12, const 13 1, if 12 1(13) 2; end 12 12 12", "", 0},
		// nobody uses it, but it is handed two values
		{13, "if 0 1(0) 1(1); with 12, trap", "", 0},
		// two that are always the same are two
		{14, "if 0 1(0 0) 1(1 1); with 12 13, end 12 13 0", "", 0},
		// itself and two others
		{13, "if 0 1(3) 1(4); with 12, to 1(12)", "", 0},
		{13, "table 0 1(3) 1(4) 1(3); with 12, if 12 1(12) 1(12)", "", 0},
		// all Args are one value
		{13, "to 1(3); with 12, out 12, end 12 12 12", "to 1; out 3, end 3 3 3", 1},
		{13, "if 0 1(3) 1(3); with 12, out 12, end 12 12 12", "if 0 1 1; out 3, end 3 3 3", 1},
		{13, "if 0 1(3) 2; with 12, end 12 12 12; to 1(3)", "if 0 1 2; end 3 3 3; to 1", 1},
		{13, "to 1(0); with 12, if 12 2 2; end 12 1 12", "to 1; if 0 2 2; end 0 1 0", 1},
		{13, "to 1(11); with 12, trap", "to 1; trap", 1},
		// also one that came to be ahead
		{14, "const 13 5, to 1(13); with 12, out 12, end 12 12 13", "const 13 5, to 1; out 13, end 13 13 13", 1},
		{15, "to 1; load 14 3, if 0 2(14) 2(14); with 12, copy 13 12, end 12 13 14", "to 1; load 14 3, if 0 2 2; copy 13 14, end 14 13 14", 1},
		// itself and one other value
		{13, "to 1(4); with 12, if 12 1(12) 2; end 12 0 12", "to 1; if 4 1 2; end 4 0 4", 1},
		{13, "to 1(4); with 12, table 12 1(12) 1(4) 2 1(12); end 12 0 12", "to 1; table 4 1 1 2 1; end 4 0 4", 1},
		{13, "to 1(4); with 12, to 1(12)", "to 1; to 1", 1},
		{13, "to 1(4); with 12, to 2; if 12 1(12) 1(4)", "to 1; to 2; if 4 1 1", 1},
		// what stands in steps of each kind
		{18, "to 1(5); with 12, copy 13 12, add 14 12 1, sub 15 1 12, mul 16 12 12, load 17 12, store 12 1, store 1 12, store 12 12, out 12, trap", "to 1; copy 13 5, add 14 5 1, sub 15 1 5, mul 16 5 5, load 17 5, store 5 1, store 1 5, store 5 5, out 5, trap", 1},
		// numbers that are no uses stay: a Do, an N, a Next, a Dst
		{14, "to 1(4); with 12, const 13 12, eq 14 12 13, trap", "", -1},
		{15, "to 1(4); with 12, const 13 12, eq 14 12 13, trap", "to 1; const 13 12, eq 14 4 13, trap", 1},
		// a table and an if
		{13, "to 1(4); with 12, table 12 2 2; if 12 3 3; trap", "to 1; table 4 2 2; if 4 3 3; trap", 1},
		// of three the middle one, the first one, the last one
		{15, "if 0 1(1 2 3) 1(4 2 5); with 12 13 14, end 12 13 14", "if 0 1(1 3) 1(4 5); with 12 14, end 12 2 14", 1},
		{15, "if 0 1(2 1 3) 1(2 4 5); with 12 13 14, end 12 13 14", "if 0 1(1 3) 1(4 5); with 13 14, end 2 13 14", 1},
		{15, "if 0 1(1 3 2) 1(4 5 2); with 12 13 14, end 12 13 14", "if 0 1(1 3) 1(4 5); with 12 13, end 12 13 2", 1},
		{15, "if 0 1(1 2 3) 1(1 2 5); with 12 13 14, end 12 13 14", "if 0 1(3) 1(5); with 14, end 1 2 14", 2},
		{15, "to 1(1 2 3); with 14 12 13, end 12 13 14", "to 1; end 2 3 1", 3},
		// a row: each is what the one ahead is
		{15, "to 1(3); with 12, to 2(12); with 13, to 3(13); with 14, end 12 13 14", "to 1; to 2; to 3; end 3 3 3", 3},
		{15, "to 1(3); with 14, to 2(14); with 13, to 3(13); with 12, end 12 13 14", "to 1; to 2; to 3; end 3 3 3", 3},
		{15, "to 3(3); with 12, end 12 13 14; with 13, to 1(13); with 14, to 2(14)", "to 3; end 3 3 3; to 1; to 2", 3},
		// a row to one that stays
		{15, "if 0 1(3) 1(4); with 12, to 2(12); with 13, to 3(13); with 14, end 12 13 14", "if 0 1(3) 1(4); with 12, to 2; to 3; end 12 12 12", 2},
		// a ring of two: the first one is not needless till the second one went
		{14, "to 1(3); with 12, if 12 2(12) 3; with 13, to 1(13); end 12 12 12", "to 1; if 3 2 3; to 1; end 3 3 3", 2},
		{14, "to 2(3); with 12, to 2(12); with 13, if 13 1(13) 3; end 13 13 13", "to 2; to 2; if 3 1 3; end 3 3 3", 2},
		{15, "to 1(3 4); with 12 13, if 12 1(13 12) 2(12); with 14, end 12 13 14", "to 1(3 4); with 12 13, if 12 1(13 12) 2; end 12 13 12", 1},
		// a ring of two with two ways in: each is handed the other one and a third value, so both stay
		{14, "if 0 1(3) 2(3); with 12, to 2(12); with 13, to 1(13)", "", 0},
		{14, "if 0 1(3) 2(4); with 12, to 2(12); with 13, to 1(13)", "", 0},
		// two that change places stay, also where they are handed one value at first
		{14, "to 1(3 3); with 12 13, to 1(13 12)", "", 0},
		// one that is handed what goes
		{15, "if 0 1(3) 2; with 12, to 3(12); to 3(3); with 13, end 13 12 13", "", -1},
		{15, "if 0 1(3) 2; with 12, to 3(12); to 3(3); with 13, end 13 3 13", "if 0 1 2; to 3; to 3; end 3 3 3", 2},
		{15, "if 0 1(3) 2(3); with 12, to 3(12); with 13, to 3(13); with 14, end 14 14 14", "if 0 1 2; to 3; to 3; end 3 3 3", 3},
		{15, "if 0 1(3) 2(4); with 12, to 3(12); with 13, to 3(13); with 14, end 14 14 14", "if 0 1 2; to 3(3); to 3(4); with 14, end 14 14 14", 2},
		// two copies of one value are two values
		{15, "copy 13 3, copy 14 3, if 0 1(13) 1(14); with 12, end 12 12 12", "", 0},
		// two of those that are 0 at first are two values
		{13, "if 0 1(8) 1(9); with 12, end 12 12 12", "", 0},
		{13, "if 0 1(9) 1(9); with 12, end 12 12 12", "if 0 1 1; end 9 9 9", 1},
	} {
		s := ssa(c.values, c.text)
		if c.gone < 0 {
			checkNoSsa(t, s)
			continue
		}
		want := ssa(c.values, c.text)
		if c.want != "" {
			want = ssa(c.values, c.want)
		}
		if is, ok := impl.IsTrim(s); is != (c.gone == 0) || !ok {
			t.Errorf("IsTrim(%s): %v %v", c.text, is, ok)
		}
		got, gone, ok := impl.TrimParams(s)
		if !sameSsa(got, want) || gone != c.gone || !ok {
			t.Errorf("TrimParams(%s): %v %d %v, not %v %d", c.text, got, gone, ok, want, c.gone)
		}
		trimmed, _ := checkSsa(t, s)
		for fuel := range 9 {
			checkSameTrim(t, s, trimmed, risingState(), fuel)
			checkSameTrim(t, s, trimmed, stateOf(0, 0), fuel)
		}
	}
}

// rowOfTwo is a row of parts, numbered so, each of which hands on the two values that it was handed; the last one ends, or leads back to the second one.
func rowOfTwo(numbers []int, back bool) impl.Ssa {
	many, values := len(numbers), []int{3, 4}
	s := impl.Ssa{Values: 12 + 2*many, Parts: make([]impl.Part, many)}
	for at, number := range numbers {
		p := &s.Parts[number]
		if at > 0 {
			values = []int{12 + 2*number, 13 + 2*number}
			p.Params = slices.Clone(values)
		}
		p.Go, p.Next, p.Args = impl.GoTo, []int{numbers[max(1, (at+1)%many)]}, [][]int{slices.Clone(values)}
		if at == many-1 && !back {
			p.Go, p.Next, p.Args = impl.GoEnd, nil, [][]int{{values[0], values[1], values[0]}}
		}
	}
	return s
}

// Promise 9: long rows and rings of parts, whichever way they are numbered.
func TestSsaTrimsMany(t *testing.T) {
	pick := someSource()
	for many := 2; many <= 11; many++ {
		for turn := range 20 {
			numbers, back := mixedNumbers(many, pick), turn%2 == 0
			s := rowOfTwo(numbers, back)
			trimmed, gone := checkSsa(t, s)
			if gone != 2*(many-1) {
				t.Errorf("TrimParams(%v): %d went", s, gone)
			}
			checkSameTrim(t, s, trimmed, risingState(), 20)
			want := [][]int{{3, 4, 3}}
			if back {
				want = [][]int{nil}
			}
			if got := trimmed.Parts[numbers[many-1]].Args; !sameLists(got, want) {
				t.Errorf("%v: %v, not %v", s, got, want)
			}
		}
	}
}

// tallySsa counts what grown ones have.
type tallySsa struct {
	hows  [4]int
	gone  int
	kept  int
	loops int // runs that begin some part twice
}

func (c *tallySsa) count(trimmed impl.Ssa, gone int, r *handSsa) {
	c.hows[r.how]++
	c.gone += gone
	for _, p := range trimmed.Parts {
		c.kept += len(p.Params)
	}
	begun := slices.Clone(r.begun)
	slices.Sort(begun)
	if len(slices.Compact(begun)) < len(r.begun) {
		c.loops++
	}
}

func (c *tallySsa) check(t *testing.T, least int) {
	t.Helper()
	if slices.Min(c.hows[1:]) < least || c.gone < 10*least || c.kept < 10*least || c.loops < least {
		t.Errorf("so few of: %+v", *c)
	}
}

// someFuels tells fuels of all sizes, now and then the greatest ones.
func someFuels(pick func(int) int) []int {
	fuels := []int{pick(3), 3 + pick(20), 200}
	if pick(12) == 0 {
		fuels = append(fuels, impl.MaxFuel-1, impl.MaxFuel)
	}
	return fuels
}

// Promise 9: grown flows from grown states, with many fuels: with one name for each value they do the same, and without needless Params, too.
func TestSsaMixedFlows(t *testing.T) {
	pick := someSource()
	var c tallySsa
	made, not := 0, 0
	for range 2000 {
		f, state := grownFlow(pick), grownState(pick)
		s, ok := checkMake(t, f)
		if !ok {
			not++
			continue
		}
		made++
		trimmed, gone := checkSsa(t, s)
		for _, fuel := range someFuels(pick) {
			checkSameAsFlow(t, f, s, trimmed, state, fuel)
		}
		c.count(trimmed, gone, ssaByHand(s, state, 200))
	}
	if made < 1000 || not < 20 {
		t.Errorf("so few of: %d made, %d not", made, not)
	}
	c.check(t, 100)
}

// Promise 9: flows of code, joined and as they are.
func TestSsaOfCode(t *testing.T) {
	pick := someSource()
	var c tallySsa
	made, not := 0, 0
	for range 2000 {
		lifted, ok := impl.LiftSteps(grownCode(pick))
		if !ok {
			continue
		}
		joined, _ := impl.JoinFlow(lifted)
		state := grownState(pick)
		for _, f := range [][]impl.Block{lifted, joined} {
			s, ok := checkMake(t, f)
			if !ok {
				not++
				continue
			}
			made++
			trimmed, gone := checkSsa(t, s)
			for _, fuel := range someFuels(pick) {
				checkSameAsFlow(t, f, s, trimmed, state, fuel)
			}
			c.count(trimmed, gone, ssaByHand(s, state, 200))
		}
	}
	if made < 1000 || not < 100 {
		t.Errorf("so few of: %d made, %d not", made, not)
	}
	c.check(t, 50)
}

// Promise 9: code told by its words does the same through all of it.
func TestSsaOfWords(t *testing.T) {
	for _, text := range []string{
		"", "get 0, out", "const 1, set 2, get 2, out",
		"loop, get 0, out, get 0, const 1, sub, set 0, get 0, brif 0, end, get 1, out",
		"get 0, if, const 5, set 1, else, const 6, set 2, end, get 1, get 2, add, out",
		"block, loop, get 0, const 5, less, if, get 0, const 1, add, set 0, br 1, end, br 1, end, end, get 0, out",
		"get 0, get 1, set 0, set 1, get 0, out, get 1, out",
	} {
		f, ok := impl.LiftSteps(code(text))
		if !ok {
			t.Fatal(text)
		}
		f, _ = impl.JoinFlow(f)
		s, ok := checkMake(t, f)
		if !ok {
			t.Fatal(text)
		}
		trimmed, _ := checkSsa(t, s)
		for a := range 4 {
			if how := checkSameAsFlow(t, f, s, trimmed, stateOf(a, 2), 400); how == impl.OutFuel && a > 0 {
				t.Error(text, a)
			}
		}
	}
}

// grownWays is blocks without Code, all come to, none of which leads to the first.
func grownWays(pick func(int) int) []impl.Block {
	f := make([]impl.Block, 2+pick(10))
	for at := range f {
		b := &f[at]
		b.Go = []int{1, 1, 1, 2, 2, 2, 2, 3, 4, 5, 5}[pick(11)]
		if at == 0 {
			b.Go = []int{1, 2, 5}[pick(3)]
		}
		many := []int{0, 1, 2, 0, 0, 2 + pick(5)}[b.Go]
		for range many {
			to := 1 + pick(len(f)-1)
			if pick(2) == 0 && at+1 < len(f) {
				to = at + 1
			}
			b.Next = append(b.Next, to)
		}
	}
	f, _ = trimByHand(f)
	return f
}

// ssaGrower gives a good ssa its values, which are numbered in no order.
type ssaGrower struct {
	pick       func(int) int
	s          impl.Ssa
	free       []int // the values that have not come to be
	dominators [][]int
}

func (g *ssaGrower) take() (int, bool) {
	if len(g.free) == 0 {
		return 0, false
	}
	i := g.pick(len(g.free))
	value := g.free[i]
	g.free = slices.Delete(g.free, i, i+1)
	return value, true
}

// make gives a part Params and steps with a Dst, but not what they use.
func (g *ssaGrower) make(at int) {
	p := &g.s.Parts[at]
	params := g.pick(4)
	if g.pick(12) == 0 {
		params = 4 + g.pick(10)
	}
	for range params {
		if value, ok := g.take(); ok && at > 0 {
			p.Params = append(p.Params, value)
		}
	}
	for range g.pick(5) {
		x := impl.Flat{Op: []int{1, 1, 1, 2, 3, 3, 3, 3, 4, 5, 6, 6}[g.pick(12)]}
		if x.Op <= impl.FxLoad {
			value, ok := g.take()
			if !ok {
				continue
			}
			x.Dst = value
		}
		p.Code = append(p.Code, x)
	}
}

// use tells a value of those that are there, mostly of the last ones.
func (g *ssaGrower) use(there []int) int {
	if g.pick(3) > 0 {
		return there[len(there)-1-g.pick(min(len(there), 6))]
	}
	return there[g.pick(len(there))]
}

// arg tells a value that is there, often the Param itself, or one that hangs on it.
func (g *ssaGrower) arg(there []int, param int) int {
	switch how := g.pick(6); {
	case how < 2 && slices.Contains(there, param):
		return param
	case how < 5:
		return param % 5
	}
	return g.use(there)
}

// fill gives a part what it uses.
func (g *ssaGrower) fill(at int) {
	there := places(12)
	for _, other := range g.dominators[at] {
		if other != at {
			there = append(there, g.s.Parts[other].Params...)
			for _, x := range g.s.Parts[other].Code {
				_, makes := usedByHand(x)
				there = append(there, makes...)
			}
		}
	}
	p := &g.s.Parts[at]
	there = append(there, p.Params...)
	for i := range p.Code {
		x := &p.Code[i]
		uses, makes := usedByHand(*x)
		for k := range uses {
			*fieldsOf(x)[2+k] = g.use(there)
		}
		if x.Op == impl.FxTwo {
			x.Do = []int{4, 5, 5, 6, 7, 8, 9}[g.pick(7)]
		}
		if x.Op == impl.FxConst {
			x.N = g.pick(5)
		}
		there = append(there, makes...)
	}
	if p.Go == impl.GoIf || p.Go == impl.GoTable {
		p.Test = g.use(there)
	}
	for _, to := range p.Next {
		var args []int
		for _, param := range g.s.Parts[to].Params {
			args = append(args, g.arg(there, param))
		}
		p.Args = append(p.Args, args)
	}
	if p.Go == impl.GoEnd {
		p.Args = [][]int{{g.use(there), g.use(there), g.use(there)}}
	}
}

func grownSsa(pick func(int) int) impl.Ssa { return grownOn(grownWays(pick), pick) }

// grownOn gives blocks without Code, all come to, Params, steps and Args.
func grownOn(f []impl.Block, pick func(int) int) impl.Ssa {
	g := ssaGrower{pick: pick, dominators: dominatorsByHand(graphByHand(f)), s: impl.Ssa{Values: 12 + pick(80)}}
	if pick(5) == 0 {
		g.s.Values = 250 - pick(100)
	}
	g.free = places(g.s.Values)[12:]
	for _, b := range f {
		g.s.Parts = append(g.s.Parts, impl.Part{Go: b.Go, Next: b.Next})
	}
	for at := range f {
		g.make(at)
	}
	for at := range f {
		g.fill(at)
	}
	return g.s
}

// Promise 9: grown ssas whose parts have any Params; all that is told of them, and runs from grown states with many fuels.
func TestSsaMixed(t *testing.T) {
	pick := someSource()
	var c tallySsa
	var sizes [12]int
	for range 4000 {
		s, state := grownSsa(pick), grownState(pick)
		sizes[len(s.Parts)]++
		trimmed, gone := checkSsa(t, s)
		for _, fuel := range someFuels(pick) {
			checkSameTrim(t, s, trimmed, state, fuel)
		}
		c.count(trimmed, gone, ssaByHand(s, state, 200))
	}
	c.check(t, 100)
	if slices.Min(sizes[2:]) < 20 {
		t.Error("so few of: ", sizes)
	}
}

// Promise 9: a run of more fuel goes on from where one of less stopped.
func TestSsaMoreFuel(t *testing.T) {
	pick := someSource()
	for range 1000 {
		s, state := grownSsa(pick), grownState(pick)
		less := pick(20)
		first, how, begun, _ := impl.RunSsa(s, state, less)
		second, howThen, begunThen, _ := impl.RunSsa(s, state, less+pick(20))
		if how != impl.OutFuel && (!sameStates(first, second) || how != howThen || begun != begunThen) {
			t.Fatalf("RunSsa(%v, %v, %d): %v %v", s, state, less, first, second)
		}
		if told := first.Told; begun > begunThen || len(told) > len(second.Told) || !slices.Equal(told, second.Told[:len(told)]) {
			t.Fatalf("RunSsa(%v, %v, %d): %v %v", s, state, less, first, second)
		}
	}
}

// listsIn tells all lists of numbers of an ssa, such that they can be changed.
func listsIn(s *impl.Ssa) []*[]int {
	var out []*[]int
	for k := range s.Parts {
		p := &s.Parts[k]
		out = append(out, &p.Params, &p.Next)
		for i := range p.Args {
			out = append(out, &p.Args[i])
		}
	}
	return out
}

// spoilSsa changes one thing of an ssa: a number, the length of a list, two steps' order.
func spoilSsa(s *impl.Ssa, pick func(int) int) {
	some := []int{math.MinInt, -1, 0, 1, 2, 3, 4, 5, 6, 7, 10, 11, 12, 13, 14, 20, s.Values - 1, s.Values, 250, 65535, 65536, math.MaxInt}
	p := &s.Parts[pick(len(s.Parts))]
	switch pick(10) {
	case 0:
		list := listsIn(s)[pick(len(listsIn(s)))]
		*list = append(*list, some[pick(len(some))])
	case 1:
		list := listsIn(s)[pick(len(listsIn(s)))]
		*list = (*list)[:max(len(*list)-1, 0)]
	case 2:
		if many := len(p.Code); many > 1 {
			i := pick(many - 1)
			p.Code[i], p.Code[i+1] = p.Code[i+1], p.Code[i]
		}
	case 3:
		if many := len(p.Code); many > 0 {
			i, other := pick(many), &s.Parts[pick(len(s.Parts))]
			x := p.Code[i]
			p.Code = slices.Delete(p.Code, i, i+1)
			other.Code = append(other.Code, x)
		}
	case 4:
		p.Args = append(p.Args, nil)
	case 5:
		s.Parts = append(s.Parts, *p)
	default:
		numbers := numbersIn(s)
		*numbers[pick(len(numbers))] = some[pick(len(some))]
	}
}

// Promises 9 and 19: grown ssas of which one thing became another.
func TestSsaAnything(t *testing.T) {
	pick := someSource()
	wrong, good := 0, 0
	for range 6000 {
		s := grownSsa(pick)
		spoilSsa(&s, pick)
		if !goodSsaByHand(s) {
			wrong++
			checkNoSsa(t, s)
			continue
		}
		good++
		trimmed, _ := checkSsa(t, s)
		checkSameTrim(t, s, trimmed, stateOf(1, 2), 20)
	}
	if wrong < 2000 || good < 500 {
		t.Errorf("so few of: %d wrong, %d good", wrong, good)
	}
}

// Promise 19: flows of which one thing became another, none of them good.
func TestSsaMadeOfAnything(t *testing.T) {
	pick := someSource()
	some := []int{math.MinInt, -1, 6, 12, 64, 65536, math.MaxInt}
	wrong := 0
	for range 3000 {
		f := grownFlow(pick)
		b := &f[pick(len(f))]
		fields := []*int{&b.Go, &b.Test}
		for i := range b.Next {
			fields = append(fields, &b.Next[i])
		}
		for i := range b.Code {
			fields = append(append(fields, &b.Code[i].Op), fieldsOf(&b.Code[i])...)
		}
		*fields[pick(len(fields))] = some[pick(len(some))]
		if !goodFlowByHand(f) {
			wrong++
			checkNoMake(t, f)
		}
	}
	if wrong < 1000 {
		t.Error("so few are wrong: ", wrong)
	}
}

// Promise 19: nil lists and empty ones are alike.
func TestSsaOfNothing(t *testing.T) {
	var flats [3]impl.Flat
	for _, none := range [][]int{nil, {}, places(3)[:0]} {
		for _, steps := range [][]impl.Flat{nil, {}, flats[:0]} {
			for _, no := range [][][]int{nil, {}, lists("5")[:0]} {
				s := impl.Ssa{Values: 12, Parts: []impl.Part{
					{Params: none, Code: steps, Go: impl.GoIf, Next: []int{1, 2}, Args: [][]int{none, none}},
					{Params: none, Code: steps, Go: impl.GoEnd, Next: none, Args: [][]int{{1, 2, 3}}},
					{Params: none, Code: steps, Go: impl.GoTrap, Next: none, Args: no},
				}}
				checkSsa(t, s)
				for fuel := range 3 {
					checkSsaRun(t, s, stateOf(0, 1), fuel)
					checkSsaRun(t, s, stateOf(1, 1), fuel)
				}
				s.Parts[0].Args = no
				checkNoSsa(t, s)
				s.Parts[1].Args = [][]int{none}
				checkNoSsa(t, s)
			}
		}
	}
	for _, next := range [][]int{nil, {}, places(3)[:0]} {
		if s, ok := checkMake(t, []impl.Block{{Code: flats[:0], Go: impl.GoTrap, Next: next}}); !ok || len(s.Parts) != 2 {
			t.Error(s, ok)
		}
	}
}

// sharedSsa is an ssa whose lists lie in one memory, with something behind their lengths, and with parts behind it.
func sharedSsa() (impl.Ssa, []impl.Part, []impl.Flat, []int) {
	numbers := []int{12, 13, 14, 1, 2, 3, 3, 4, 1, 15, 16, -5, 77}
	flats := append(part("out 3, sub 17 12 13, store 17 12, copy 18 17, trap").Code, impl.Flat{Op: 99, A: -3}, impl.Flat{Op: 6, A: 250})
	args := [][]int{numbers[4:7], numbers[4:7], numbers[3:5], {99}, numbers[9:]}
	parts := []impl.Part{
		{Code: flats[:1], Go: impl.GoTo, Next: numbers[3:4], Args: args[:1]},
		{Params: numbers[:3], Code: flats[1:3], Go: impl.GoIf, Test: 17, Next: numbers[3:5], Args: [][]int{numbers[:3], numbers[:2]}},
		{Params: numbers[9:11], Code: flats[3:4], Go: impl.GoEnd, Next: numbers[4:4], Args: args[1:2]},
		{Go: 88, Next: numbers[11:]},
	}
	return impl.Ssa{Values: 19, Parts: parts[:3]}, parts, flats, numbers
}

// Promise 19: no list that is handed in is changed, nor what lies behind it; and that tells nothing.
func TestSsaListsStay(t *testing.T) {
	s, parts, flats, numbers := sharedSsa()
	before := copySsa(impl.Ssa{Parts: parts})
	flatsBefore, numbersBefore := slices.Clone(flats), slices.Clone(numbers)
	trimmed, gone := checkSsa(t, s)
	want := ssa(19, "out 3, to 1; sub 17 2 3, store 17 2, if 17 1 2; copy 18 17, end 2 3 3")
	if !sameSsa(trimmed, want) || gone != 5 {
		t.Error(trimmed, gone)
	}
	for fuel := range 8 {
		checkSameTrim(t, s, trimmed, risingState(), fuel)
	}
	for many := range len(parts) + 1 {
		if many != 3 {
			checkNoSsa(t, impl.Ssa{Values: 19, Parts: parts[:many]})
		}
	}
	checkNoSsa(t, impl.Ssa{Values: 18, Parts: s.Parts})
	if !sameSsa(impl.Ssa{Parts: parts}, before) || !slices.Equal(flats, flatsBefore) || !slices.Equal(numbers, numbersBefore) {
		t.Error(parts, flats, numbers)
	}
	memory, steps, next := mixedMemory()
	flowBefore, stepsBefore, nextBefore := copyFlow(memory), slices.Clone(steps), slices.Clone(next)
	if made, ok := checkMake(t, memory[:5]); !ok || len(made.Parts) != 5 {
		t.Error(made, ok)
	}
	checkNoMake(t, memory)
	if !sameFlow(memory, flowBefore) || !slices.Equal(steps, stepsBefore) || !slices.Equal(next, nextBefore) {
		t.Error(memory, steps, next)
	}
}

// checkSsaIsNew spoils each list of an ssa that is told, and looks at all its other lists, at other answers, and at what stays.
func checkSsaIsNew(t *testing.T, ask func() impl.Ssa, stays func() bool) {
	t.Helper()
	want := copySsa(ask())
	check := func(spoil func(s *impl.Ssa), same func(s *impl.Ssa)) {
		t.Helper()
		first, second := ask(), ask()
		spoil(&first)
		expect := copySsa(want)
		same(&expect)
		if !sameSsa(first, expect) {
			t.Errorf("%v, not %v", first, expect)
		}
		if third := ask(); !sameSsa(second, want) || !sameSsa(third, want) || !stays() {
			t.Errorf("%v and %v, not %v", second, third, want)
		}
	}
	for i := range listsIn(&want) {
		check(func(s *impl.Ssa) { spoilNumbers(*listsIn(s)[i]) }, func(s *impl.Ssa) {
			list := *listsIn(s)[i]
			copy(list, slices.Repeat([]int{77}, len(list)))
		})
	}
	for at := range want.Parts {
		check(func(s *impl.Ssa) { spoilFlats(s.Parts[at].Code) }, func(s *impl.Ssa) {
			for i := range s.Parts[at].Code {
				s.Parts[at].Code[i] = impl.Flat{Op: 77, Do: 77, Dst: 77, A: 77, B: 77, N: 77}
			}
		})
		check(func(s *impl.Ssa) { clear(s.Parts[at].Args[:cap(s.Parts[at].Args)]) }, func(s *impl.Ssa) { clear(s.Parts[at].Args) })
	}
	check(func(s *impl.Ssa) { clear(s.Parts[:cap(s.Parts)]) }, func(s *impl.Ssa) { clear(s.Parts) })
}

// Promise 19: an ssa that is told shares no memory with what was handed in, even where that shares its own, nor do two of its lists share any, nor two answers.
func TestSsaAnswersAreNew(t *testing.T) {
	shared, parts, flats, numbers := sharedSsa()
	before := copySsa(impl.Ssa{Parts: parts})
	flatsBefore, numbersBefore := slices.Clone(flats), slices.Clone(numbers)
	stays := func() bool {
		return sameSsa(impl.Ssa{Parts: parts}, before) && slices.Equal(flats, flatsBefore) && slices.Equal(numbers, numbersBefore)
	}
	for _, s := range []impl.Ssa{shared, fullSsa(), ssa(14, "if 0 1(3 4) 1(4 3); with 12 13, out 12, if 0 1(12 13) 2; end 12 13 13")} {
		kept := copySsa(s)
		both := func() bool { return stays() && sameSsa(s, kept) }
		checkSsaIsNew(t, func() impl.Ssa { got, _, _ := impl.TrimParams(s); return got }, both)
		checkListsAreNew(t, func() [][]int { got, _ := impl.ShapeOf(s); return got.Next }, both)
		for _, ask := range []func() []int{
			func() []int { got, _ := impl.DefsOf(s); return got },
			func() []int { got, _ := impl.UsesOf(s); return got },
			func() []int { got, _, _ := impl.TraceSsa(s, risingState(), 3); return got },
		} {
			want := slices.Clone(ask())
			first, second := ask(), ask()
			spoilNumbers(first)
			if third := ask(); !slices.Equal(second, want) || !slices.Equal(third, want) || !both() {
				t.Error(second, third, want)
			}
		}
	}
	memory, steps, next := mixedMemory()
	flowBefore, stepsBefore, nextBefore := copyFlow(memory), slices.Clone(steps), slices.Clone(next)
	for _, f := range [][]impl.Block{memory[:5], flow("table 0 1 1 2; if 0 0 2; const 1 1, end")} {
		checkSsaIsNew(t, func() impl.Ssa { got, _ := impl.MakeSsa(f); return got }, func() bool {
			return sameFlow(memory, flowBefore) && slices.Equal(steps, stepsBefore) && slices.Equal(next, nextBefore)
		})
	}
}

// Promise 19: a state's three lists stay, and what lies behind them; what is told shares no memory with them, nor with each other, nor with another answer.
func TestSsaStatesAreNew(t *testing.T) {
	locals, mem, told := slices.Repeat([]int{-5}, 20), slices.Repeat([]int{-6}, 30), slices.Repeat([]int{-7}, 110)
	copy(locals, places(8))
	copy(mem, places(16))
	copy(told, []int{3, 4, 5})
	before := copyOfState(impl.State{Locals: locals, Mem: mem, Told: told})
	state := impl.State{Locals: locals[:8], Mem: mem[:16], Told: told[:3]}
	want := impl.State{Locals: []int{9, 8, 7, 0, 0, 0, 0, 0}, Mem: places(16), Told: []int{3, 4, 5, 9, 8}}
	want.Mem[0], want.Mem[15] = 9, 8
	s := ssa(16, "const 12 9, const 13 8, to 1(13); with 14, const 15 15, store 0 12, store 15 14, out 12, out 14, end 12 14 7")
	ask := func() impl.State {
		got, how, begun, ok := impl.RunSsa(s, state, 2)
		if how != impl.OutEnd || begun != 2 || !ok {
			t.Fatal(how, begun, ok)
		}
		return got
	}
	stays := func() bool { return sameStates(impl.State{Locals: locals, Mem: mem, Told: told}, before) }
	for which := range 3 {
		first, second := ask(), ask()
		for i, list := range listsOf(&first) {
			if got := (*list)[:cap(*list)][len(*list):]; slices.ContainsFunc(got, func(n int) bool { return n < 0 }) {
				t.Errorf("behind list %d: %v", i, got)
			}
		}
		spoilNumbers(*listsOf(&first)[which])
		for i := range 3 {
			if i != which && !slices.Equal(*listsOf(&first)[i], *listsOf(&want)[i]) {
				t.Error(which, i, first)
			}
		}
		if third := ask(); !sameStates(second, want) || !sameStates(third, want) || !stays() {
			t.Error(which, second, third)
		}
	}
	for fuel := range 2 {
		got, _, _, _ := impl.RunSsa(s, state, fuel)
		for _, list := range listsOf(&got) {
			spoilNumbers(*list)
		}
		words, _, _ := impl.TraceSsa(s, state, fuel)
		spoilNumbers(words)
		if !stays() {
			t.Fatal(fuel, locals, mem, told)
		}
	}
	// lists that lie in one memory
	memory := slices.Repeat([]int{2}, 30)
	one := impl.State{Locals: memory[:8], Mem: memory[4:20], Told: memory[2:5]}
	checkSsaRun(t, s, one, 3)
	if !slices.Equal(memory, slices.Repeat([]int{2}, 30)) {
		t.Error(memory)
	}
}
