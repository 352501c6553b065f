package tests

import (
	"fmt"
	"regexp"
	"slices"
	"strconv"
	"strings"
	"sync"
	"testing"

	"loop.example/g00373/impl"
)

// script tells a script of written lines, a stroke between two of them.
func script(text string) string { return strings.ReplaceAll(text, "/", "\n") + "\n" }

// asScript tells the lines of steps, each of which may stand somewhere.
func asScript(l []impl.Step) string {
	text := ""
	for _, x := range l {
		text += textByHand(x) + "\n"
	}
	return text
}

// stepTexts tells all steps that may stand somewhere, by their texts.
var stepTexts = sync.OnceValue(func() map[string]impl.Step {
	all := map[string]impl.Step{}
	for op := range 23 {
		for n := range 65536 {
			x := step(op, n)
			if text := textByHand(x); text != "" {
				all[text] = x
			}
			if op == 0 || op > 3 && n > 8 {
				break
			}
		}
	}
	lists := [][]int{nil}
	for range 4 {
		var longer [][]int
		for _, l := range lists {
			for n := range 9 {
				longer = append(longer, append(slices.Clip(l), n))
			}
		}
		for _, l := range longer {
			for n := range 9 {
				all[textByHand(step(22, n, l...))] = step(22, n, l...)
			}
		}
		lists = longer
	}
	return all
})

const anyNumber = ` (0|[1-9][0-9]{0,5})`

var (
	runLine    = regexp.MustCompile(`^run` + anyNumber + anyNumber + `$`)
	optLine    = regexp.MustCompile(`^opt` + anyNumber + `$`)
	lebLine    = regexp.MustCompile(`^leb` + anyNumber + `$`)
	normalLine = regexp.MustCompile(`^normal ([^ ]*)$`)
)

// codesMade keeps what was worked out of code, by its text: scripts ask for the same code again and again.
var codesMade = map[string]*optimised{}

func madeOfCode(l []impl.Step) *optimised {
	text := asScript(l)
	if codesMade[text] == nil {
		codesMade[text] = optimisedByHand(copySteps(l))
	}
	return codesMade[text]
}

// lineByHand tells the answer of a line, and the steps behind it.
func lineByHand(l []impl.Step, line string) (string, []impl.Step) {
	valid := func() bool { return validByHand(l).code == 0 }
	if x, is := stepTexts()[line]; is {
		if len(l) == 60 {
			return "no", l
		}
		return "ok", joined(l, []impl.Step{x})
	}
	if m := runLine.FindStringSubmatch(line); m != nil {
		n := numbersOf(m[1:])
		if max(n[0], n[1]) > 65535 || !valid() {
			return "no", l
		}
		r := runByHand(l, stateOf(n[0], n[1]), 500)
		answer := []string{"", "end", "trap", "more"}[r.how]
		for _, word := range r.s.Told {
			answer = fmt.Sprint(answer, " ", word)
		}
		return answer, l
	}
	if m := optLine.FindStringSubmatch(line); m != nil {
		p := numbersOf(m[1:])[0]
		if p > 15 || !valid() {
			return "no", l
		}
		x := madeOfCode(l)
		return fmt.Sprintf("at %d %d", x.ats[p], len(x.codes[p])), x.codes[p]
	}
	if m := lebLine.FindStringSubmatch(line); m != nil {
		return fmt.Sprint("long ", len(numberByHand(numbersOf(m[1:])[0]))), l
	}
	if m := normalLine.FindStringSubmatch(line); m != nil {
		if !anyWord.MatchString(m[1]) {
			return "no", l
		}
		normal, _, ends := goneOn(rules("ba ab, aa, bb"), m[1], firstOf)
		if !ends {
			return "no", l
		}
		return "is " + normal, l
	}
	switch w := validByHand(l); {
	case line == "clear":
		return "ok", nil
	case line == "valid" && w.code == 0:
		return "yes", l
	case line == "valid":
		return fmt.Sprintf("not %d %d", w.code, w.at), l
	}
	return "what", l
}

// handScript is a script, what it answers line by line, and the steps ahead of each line, and behind all.
type handScript struct {
	lines   []string
	answers []string
	steps   [][]impl.Step
}

// scriptByHand tells false of a text that is no script.
func scriptByHand(text string) (handScript, bool) {
	parts := strings.Split(text, "\n")
	last := len(parts) - 1
	if parts[last] != "" || last > 80 || len(text) > 2500 {
		return handScript{}, false
	}
	h := handScript{lines: parts[:last], steps: [][]impl.Step{nil}}
	for at, line := range h.lines {
		answer, l := lineByHand(h.steps[at], line)
		h.answers, h.steps = append(h.answers, answer), append(h.steps, l)
	}
	return h, true
}

// allLines tells so many of a script's lines, or of its answers, as one text.
func allLines(l []string, many int) string {
	text := ""
	for _, line := range l[:many] {
		text += line + "\n"
	}
	return text
}

// checkTold holds the answers of the first lines of a script, and their steps, against what is worked out by hand.
func (h handScript) checkTold(t *testing.T, many int, behind string) {
	t.Helper()
	text, want := allLines(h.lines, many), allLines(h.answers, many)
	if got := impl.RunLines(text + behind); !strings.HasPrefix(got, want) || behind == "" && got != want {
		t.Fatalf("RunLines(%q): %q, not %q", text+behind, got, want)
	}
	got, ok := impl.CodeOf(text)
	if !sameSteps(got, h.steps[many]) || !ok {
		t.Fatalf("CodeOf(%q): %v %v, not %v", text, got, ok, h.steps[many])
	}
	for _, x := range got[len(got):cap(got)] {
		if !sameStep(x, impl.Step{}) {
			t.Fatalf("CodeOf(%q): %v, and %v behind", text, got, x)
		}
	}
}

// checkNoScript looks for the zero answers.
func checkNoScript(t *testing.T, text string) {
	t.Helper()
	if got := impl.RunLines(text); got != "" {
		t.Errorf("RunLines(%q): %q", text, got)
	}
	if got, ok := impl.CodeOf(text); len(got) != 0 || ok {
		t.Errorf("CodeOf(%q): %v %v", text, got, ok)
	}
}

// checkScript holds what any text tells against what is worked out by hand, also of what is left of it where it is cut behind each of its lines, which is promise 18; it tells false of a text that is no script.
func checkScript(t *testing.T, text string) (handScript, bool) {
	t.Helper()
	h, ok := scriptByHand(text)
	if !ok {
		checkNoScript(t, text)
		return h, false
	}
	for many := range len(h.lines) + 1 {
		h.checkTold(t, many, "")
	}
	h.checkTold(t, len(h.lines), "") // what was asked meanwhile does not matter
	return h, true
}

// linesCase is written lines, and what they answer.
type linesCase struct {
	lines   string
	answers string
}

func checkLines(t *testing.T, cases ...linesCase) {
	t.Helper()
	for _, c := range cases {
		if got := impl.RunLines(script(c.lines)); got != script(c.answers) {
			t.Errorf("RunLines(%s): %q, not %s", c.lines, got, c.answers)
		}
		checkScript(t, script(c.lines))
	}
}

// checkAnswer looks for one answer of several lines, each alone.
func checkAnswer(t *testing.T, answer string, lines ...string) {
	t.Helper()
	for _, line := range lines {
		if got := impl.RunLines(line + "\n"); got != answer+"\n" {
			t.Errorf("RunLines(%q): %q, not %q", line, got, answer)
		}
		checkScript(t, line+"\n")
	}
}

// checkCodeOf looks for the steps of written lines in the end.
func checkCodeOf(t *testing.T, lines string, want []impl.Step) {
	t.Helper()
	if got, ok := impl.CodeOf(script(lines)); !sameSteps(got, want) || !ok {
		t.Errorf("CodeOf(%s): %v %v, not %v", lines, got, ok, want)
	}
}

// Promise 18: the constants are as the document has them.
func TestLinesConstants(t *testing.T) {
	if impl.MaxScript != 2500 || impl.MaxLines != 80 {
		t.Error(impl.MaxScript, impl.MaxLines)
	}
}

// Promise 18: one script with lines of all kinds.
func TestLinesTogether(t *testing.T) {
	checkLines(t,
		linesCase{"get 0/get 1/add/out/valid/run 5 2/leb 300/normal abba/fly/get 9/add/valid/opt 3/clear/valid/run 1/run 70000 1", "ok/ok/ok/ok/yes/end 7/long 2/is /what/what/ok/not 2 4/no/ok/yes/what/no"},
		linesCase{"valid/run 1 2/opt 15/valid/run 3 4/clear/const 7/out/trap/get 0/run 0 0/opt 9/run 0 0/clear/run 0 0", "yes/end/at 5 13/yes/end/ok/ok/ok/ok/ok/no/no/no/ok/end"},
		linesCase{"const 2/const 3/add/out/br 0/trap/opt 0/run 0 0/opt 1/opt 9/opt 9/run 0 0", "ok/ok/ok/ok/ok/ok/at 5 23/end 5/at 5 59/at 3 59/at 3 59/end 5"},
	)
}

// Promises 18 and 19: the empty text is a script; a text the last line of which has no byte 10 behind it is none; an empty line is a line.
func TestLinesWhatIsNone(t *testing.T) {
	if h, ok := checkScript(t, ""); !ok || len(h.lines) != 0 {
		t.Error(h)
	}
	if l, ok := impl.CodeOf(""); len(l) != 0 || !ok {
		t.Error(l, ok)
	}
	for _, text := range []string{"clear", "what", " ", "\r", "\x00", "\xff", "valid\nclear", "\n\n ", "get 0\nout\nrun 1 2", "get 0\nout\n\x00", "clear\n\r", "\nclear\n\nclear"} {
		checkNoScript(t, text)
		if h, ok := checkScript(t, text+"\n"); !ok || len(h.answers) == 0 {
			t.Errorf("%q: %v", text, h)
		}
	}
	for _, c := range []struct{ text, answers string }{
		{"\n", "what\n"}, {"\n\n\n", "what\nwhat\nwhat\n"}, {"clear\n\nclear\n", "ok\nwhat\nok\n"}, {" \n", "what\n"}, {"clear\r\n", "what\n"}, {"\rclear\n", "what\n"}, {"clear\x00\n", "what\n"},
		{"\xff\xfe\n", "what\n"}, {"clear\xff\nclear\n", "what\nok\n"}, {"normal \xff\n", "no\n"}, {"normal a\r\n", "no\n"}, {"const\u00a05\n", "what\n"}, {"const 5\u2028\n", "what\n"}, {"\xef\xbb\xbfclear\n", "what\n"},
	} {
		if got := impl.RunLines(c.text); got != c.answers {
			t.Errorf("RunLines(%q): %q, not %q", c.text, got, c.answers)
		}
		checkScript(t, c.text)
	}
}

// Promises 18 and 19: as many lines and bytes as there may be, and one more.
func TestLinesMost(t *testing.T) {
	wide := strings.Repeat("x", 2499) + "\n"
	for _, c := range []struct {
		text string
		is   bool
	}{
		{strings.Repeat("\n", 79), true}, {strings.Repeat("\n", 80), true}, {strings.Repeat("\n", 81), false}, {strings.Repeat("\n", 2500), false}, {strings.Repeat("\n", 80) + "x", false}, {strings.Repeat("\n", 79) + "x", false},
		{strings.Repeat("clear\n", 80), true}, {strings.Repeat("clear\n", 81), false}, {strings.Repeat("get 0\n", 60) + strings.Repeat("out\n", 20), true}, {strings.Repeat("get 0\n", 61) + strings.Repeat("out\n", 20), false},
		{wide[1:], true}, {wide, true}, {"x" + wide, false}, {"\n" + wide[1:], true}, {"\n" + wide, false}, {wide + "\n", false}, {wide[1:] + "\n", true}, {wide[1:] + "x", false},
		{strings.Repeat("\n", 79) + wide[79:], true}, {strings.Repeat("\n", 79) + wide[78:], false}, {strings.Repeat("\n", 80) + wide[80:], false},
		{"normal " + strings.Repeat("c", 2492) + "\n", true}, {"normal " + strings.Repeat("c", 2493) + "\n", false}, {strings.Repeat("x\n", 5000), false}, {strings.Repeat("clear", 100000), false},
	} {
		if h, ok := checkScript(t, c.text); ok != c.is || ok && len(h.lines) == 0 {
			t.Errorf("%q: %v", c.text, ok)
		}
	}
	if got := impl.RunLines(strings.Repeat("\n", 80)); got != strings.Repeat("what\n", 80) {
		t.Errorf("%q", got)
	}
}

// Promise 18: each step that may stand somewhere comes behind all, by its text; there are all words, and all Tables.
func TestLinesEachStep(t *testing.T) {
	var texts []string
	for text := range stepTexts() {
		texts = append(texts, text)
	}
	slices.Sort(texts)
	if len(texts) != 65536+2*8+2*9+16+9*(9+81+729+6561) {
		t.Error(len(texts))
	}
	for most := range slices.Chunk(texts, 60) {
		var want []impl.Step
		for _, text := range most {
			want = append(want, stepTexts()[text])
		}
		lines := allLines(most, len(most))
		if got := impl.RunLines(lines); got != strings.Repeat("ok\n", len(most)) {
			t.Fatalf("RunLines(%q): %q", lines, got)
		}
		if got, ok := impl.CodeOf(lines); !sameSteps(got, want) || !ok {
			t.Fatalf("CodeOf(%q): %v %v, not %v", lines, got, ok, want)
		}
	}
	for op := range 22 {
		word, _ := wordOf(op + 1)
		for _, numbers := range []string{"", " 0", " 1", " 0 0", " 1 2", " 0 0 0 0 0", " 0 0 0 0 0 0", " 7", " 8", " 9", " 65535", " 65536"} {
			checkScript(t, word+numbers+"\n")
		}
	}
}

// Promise 18: texts of steps that may stand nowhere.
func TestLinesNoStep(t *testing.T) {
	checkAnswer(t, "what",
		"const 65536", "const 99999", "const 100000", "const 999999", "const 1000000", "const 4294967296", "const 18446744073709551616", "const -1", "const", "const ", "const 1 1", "const 1 ", "get 8", "get 9", "get 10", "get", "get -1", "get 0 0",
		"set 8", "set 65535", "set", "set 1 2", "br 9", "br", "br 0 0", "brif 9", "brif", "brif 1 1", "table", "table 0", "table 9", "table 0 9", "table 9 0", "table 0 0 0 0 9", "table 0 0 0 0 0 0", "table 0 0 0 0 0 0 0", "table 0 1 ", "table  0 1",
		"add 0", "add 1", "sub 0", "mul 0 0", "div 1", "less 0", "eq 0", "load 0", "store 0", "out 0", "drop 0", "trap 0", "block 0", "loop 0", "if 0", "else 0", "end 0", "add ", " add", "none", "0", "1", "1 2", "wconst 1", "WAdd",
	)
	checkCodeOf(t, "const 65536/get 8/table 0/add 0/add/const 1 1/ add/add /ADD", code("add"))
}

// Promise 18: 59 steps and 60: one more is refused, and what is refused changes nothing.
func TestLinesFull(t *testing.T) {
	full := strings.Repeat("trap/", 59)
	oks := strings.Repeat("ok/", 59)
	checkLines(t,
		linesCase{full + "out/const 1/block/valid/out", oks + "ok/no/no/yes/no"}, linesCase{strings.Repeat("get 0/drop/", 29) + "get 0/add/const 1/out/valid/opt 0/end/run 1 2", oks + "ok/no/no/not 2 59/no/no/no"}, linesCase{full + "trap/table 0 0/valid/run 1 2", oks + "ok/no/yes/trap"},
		linesCase{full + "trap/get 8/const 65536/table 0/fly//add 0/add", oks + "ok/what/what/what/what/what/what/no"}, linesCase{full + "trap/leb 1/normal ba/run 1/trap", oks + "ok/long 1/is ab/what/no"},
		linesCase{full + "trap/trap/clear/out/trap/valid", oks + "ok/no/ok/ok/ok/not 2 0"}, linesCase{full + "trap/get 0/opt 0/get 0/out/valid/run 7 1", oks + "ok/no/at 5 1/ok/ok/yes/trap"},
		linesCase{full + "valid/trap/valid/trap", oks + "yes/ok/yes/no"},
	)
	checkCodeOf(t, full+"out/const 1/block/get 5", joined(code(many("trap", 59)), code("out")))
	checkCodeOf(t, full+"out/const 1/clear/get 5/get 6", code("get 5, get 6"))
	checkCodeOf(t, strings.Repeat("get 1/", 79)+"get 2", code(many("get 1", 60)))
	checkCodeOf(t, strings.Repeat("get 1/clear/", 39)+"get 2", code("get 2"))
}

// Promise 18: clear leaves no steps, whatever was there.
func TestLinesClear(t *testing.T) {
	for _, ahead := range []string{"", "trap/", "drop/", "clear/", "clear/clear/", "block/", "get 0/out/opt 15/", "get 0/if/else/end/", strings.Repeat("get 0/", 60), "fly/"} {
		checkCodeOf(t, ahead+"clear", nil)
		checkCodeOf(t, ahead+"clear/get 3", code("get 3"))
		h, _ := checkScript(t, script(ahead+"clear/valid/run 1 2/opt 0/clear/out/valid"))
		if got := strings.Join(h.answers[len(h.answers)-7:], "/"); got != "ok/yes/end/at 5 13/ok/ok/not 2 0" {
			t.Error(ahead, got)
		}
	}
	checkAnswer(t, "what", "clear ", " clear", "clear 0", "clear 1", "Clear", "CLEAR", "clea", "clears", "clear\t", "cl ear", "clear clear")
}

// Promise 18: each code of ValidSteps, at its place.
func TestLinesValid(t *testing.T) {
	checkAnswer(t, "yes", "valid")
	for _, c := range []struct{ code, answer string }{
		{"", "yes"}, {"trap", "yes"}, {"get 0, out", "yes"}, {"trap, const 1, out", "yes"}, {"block, const 1, br 0, end", "yes"}, {busy, "yes"}, {"trap, drop", "yes"},
		{"end", "not 1 0"}, {"block", "not 1 0"}, {"trap, trap, end", "not 1 0"}, {"else", "not 1 0"}, {"br 1", "not 1 0"}, {"drop, block", "not 1 0"}, {many("block", 9) + many("end", 9), "not 1 0"}, {"table 0 0 1", "not 1 0"},
		{"drop", "not 2 0"}, {"const 1, add", "not 2 1"}, {"get 0, get 1, add, out, add", "not 2 4"}, {"const 1, block, drop, end", "not 2 2"}, {many("const 1, drop", 29) + "add", "not 2 58"}, {many("block, end", 29) + "trap, trap", "yes"}, {many("loop, end, block, end", 14) + "out", "not 2 56"}, {many("trap, block, end", 19) + "out", "yes"},
		{"const 1", "not 3 1"}, {"block, const 1, end", "not 3 2"}, {"const 1, if, const 1, else, end", "not 3 3"}, {many("const 1, drop", 29) + "trap, const 1", "not 3 60"}, {"trap, const 1", "not 3 2"},
		{many("const 1", 5), "not 4 4"}, {many("const 1", 4) + "get 0", "not 4 4"}, {many("const 1, drop", 27) + many("get 0", 5), "not 4 58"}, {many("get 0", 60), "not 4 4"},
	} {
		text := asScript(code(c.code)) + "valid\n"
		h, ok := checkScript(t, text)
		if got := h.answers[len(h.answers)-1]; got != c.answer || !ok {
			t.Errorf("%s: %s, not %s", c.code, got, c.answer)
		}
		checkScript(t, text+"valid\nout\nvalid\nclear\nvalid\n")
	}
	checkAnswer(t, "what", "valid ", " valid", "valid 0", "valid 1", "Valid", "VALID", "vali", "valids", "valid valid", "va lid")
}

// lastAnswer tells the last answer of a script of steps with one line behind them.
func lastAnswer(t *testing.T, l []impl.Step, line string) string {
	t.Helper()
	h, ok := checkScript(t, asScript(l)+line+"\n")
	if !ok {
		t.Fatal(l, line)
	}
	return h.answers[len(h.answers)-1]
}

// Promise 18: runs that end, trap and need more, with words told and without; code that is not valid; numbers that are no words.
func TestLinesRun(t *testing.T) {
	told := strings.Repeat(" 3", 100)
	round := "loop, get 0, const 1, sub, set 0, get 0, brif 0, end"
	tells := "loop," + many("get 1, out", 20) + "get 0, const 1, sub, set 0, get 0, brif 0, end"
	for _, c := range []struct{ code, line, answer string }{
		{"", "run 0 0", "end"}, {"", "run 65535 65535", "end"}, {"", "run 65536 0", "no"}, {"", "run 0 65536", "no"}, {"", "run 999999 999999", "no"}, {"", "run 70000 1", "no"}, {"", "run 100000 0", "no"},
		{"get 0, out", "run 5 2", "end 5"}, {"get 1, out", "run 5 2", "end 2"}, {"get 0, out, get 1, out", "run 65535 0", "end 65535 0"}, {"get 0, get 1, sub, out, get 2, out, const 15, load, out", "run 1 2", "end 65535 0 0"},
		{"get 0, out", "run 65536 2", "no"}, {"get 0, out", "run 5 65536", "no"}, {"drop", "run 5 2", "no"}, {"drop", "run 65536 2", "no"}, {"const 1", "run 5 2", "no"}, {"block", "run 5 2", "no"}, {"br 0, out, end", "run 5 2", "no"}, {many("const 1", 5), "run 0 0", "no"},
		{"trap", "run 5 2", "trap"}, {"get 0, out, trap", "run 5 2", "trap 5"}, {"get 0, get 1, div, out", "run 5 0", "trap"}, {"get 0, get 1, div, out", "run 7 2", "end 3"}, {"get 0, out, get 1, out, const 16, load, out", "run 5 2", "trap 5 2"},
		{"loop, br 0, end", "run 5 2", "more"}, {"get 0, out, get 1, out, loop, br 0, end", "run 5 2", "more 5 2"}, {"br 0, trap", "run 5 2", "end"},
		// fuel: just 500 steps, one more, and one that traps behind them
		{round, "run 83 2", "end"}, {round, "run 84 2", "more"}, {round, "run 0 2", "more"}, {round + ", br 0", "run 83 2", "more"}, {round + ", trap", "run 83 2", "more"}, {round + ", br 0", "run 82 2", "end"}, {"get 0, out, " + round, "run 83 2", "more 83"},
		{round + many(", const 1, drop", 3), "run 82 0", "end"}, {round + many(", const 1, drop", 2) + "br 0, trap", "run 82 0", "end"}, {round + many(", const 1, drop", 2) + "trap", "run 82 0", "trap"}, {round + many(", const 1, drop", 3) + "trap", "run 82 0", "more"},
		// as many words as can be told, and one more
		{tells, "run 5 3", "end" + told}, {tells, "run 6 3", "trap" + told}, {tells, "run 0 3", "trap" + told}, {tells + ", get 1, out", "run 5 3", "trap" + told}, {tells + ", get 0, out", "run 4 3", "end" + told[:160] + " 0"}, {tells + ", loop, br 0, end", "run 5 3", "more" + told},
	} {
		if got := lastAnswer(t, code(c.code), c.line); got != c.answer {
			t.Errorf("%s, %s: %s, not %s", c.code, c.line, got, c.answer)
		}
	}
	checkAnswer(t, "what", "run", "run ", "run  ", "run 1", "run 1 ", "run 1 2 ", "run 1 2 3", "run  1 2", "run 1  2", " run 1 2", "Run 1 2", "RUN 1 2", "run 1,2", "run a b", "run 1 b", "run a 2", "runs 1 2", "ru 1 2", "run1 2", "run 1 2\t", "run\t1\t2")
}

// Promise 18: each run begins anew, and leaves the steps as they are.
func TestLinesRunAnew(t *testing.T) {
	checkLines(t,
		linesCase{"get 3/out/const 0/load/out/const 9/set 3/const 0/const 8/store/run 1 2/run 1 2/run 2 1", "ok/ok/ok/ok/ok/ok/ok/ok/ok/ok/end 0 0/end 0 0/end 0 0"},
		linesCase{"get 0/out/run 1 2/get 1/run 1 2/out/run 1 2/run 2 1/run 65536 1/run 7 7", "ok/ok/end 1/ok/no/ok/end 1 2/end 2 1/no/end 7 7"},
		linesCase{"run 1 2/trap/run 1 2/get 0/run 1 2/out/run 1 2", "end/ok/trap/ok/no/ok/trap"},
	)
	checkCodeOf(t, "get 0/run 1 2/out/run 1 2/trap/run 1 2/run 99999 1/run", code("get 0, out, trap"))
}

// optCase is code, passes, the answer, and the code then.
type optCase struct {
	code   string
	passes int
	answer string
	better string
}

// Promise 18: how far code comes by passes, and what the steps are then.
func TestLinesOpt(t *testing.T) {
	out := "get 1, set 0, get 2, set 1, get 3, set 2, br 0"
	in := "get 2, set 3, get 1, set 2, get 0, set 1, "
	names := "get 3, get 4, get 5, get 6, add, add, add, out"
	for _, c := range []optCase{
		// AtValid
		{"drop", 0, "no", "drop"}, {"drop", 15, "no", "drop"}, {"block", 15, "no", "block"}, {"const 1", 3, "no", "const 1"}, {many("const 1", 5), 7, "no", many("const 1", 5)}, {"trap, end", 8, "no", "trap, end"},
		// AtSsa, AtBack, AtStruct
		{many("get 0, brif 0", 10) + "trap, const 1, out", 15, "at 2 21", many("get 0, brif 0", 10) + "trap"}, {many("get 0, brif 0", 30), 0, "at 2 60", many("get 0, brif 0", 30)},
		{names + ", br 0, trap, block, end", 15, "at 3 9", names + ", br 0"}, {names, 0, "at 3 8", names}, {many("get 0, out", 28) + "trap, get 1, out", 0, "at 4 57", many("get 0, out", 28) + "trap"},
		// AtEnd
		{"", 0, "at 5 13", in + out}, {"", 15, "at 5 13", in + out}, {"trap", 0, "at 5 1", "trap"}, {"trap, const 1, out", 4, "at 5 1", "trap"}, {"get 0, out, trap", 15, "at 5 5", "get 0, set 1, get 1, out, trap"},
		{"const 2, const 3, add, out, br 0, trap", 0, "at 5 23", in + "const 2, set 4, const 3, set 5, get 4, get 5, add, set 4, get 4, out, " + out},
		{"const 2, const 3, add, out, br 0, trap", 9, "at 5 17", in + "const 5, set 4, get 4, out, " + out},
	} {
		l := code(c.code)
		line := "opt " + strconv.Itoa(c.passes)
		if got := lastAnswer(t, l, line); got != c.answer {
			t.Errorf("%s, %s: %s, not %s", c.code, line, got, c.answer)
		}
		if got, ok := impl.CodeOf(asScript(l) + line + "\n"); !sameSteps(got, code(c.better)) || !ok {
			t.Errorf("%s, %s: %v, not %s", c.code, line, got, c.better)
		}
		for p := range 16 {
			checkScript(t, asScript(l)+fmt.Sprintf("opt %d\nvalid\nrun 5 2\nopt %d\n", p, 15-p))
		}
		for _, wrong := range []int{16, 17, 31, 32, 255, 256, 65536, 999999} {
			if got := lastAnswer(t, l, "opt "+strconv.Itoa(wrong)); got != "no" {
				t.Errorf("%s, opt %d: %s", c.code, wrong, got)
			}
			checkCodeOf(t, strings.ReplaceAll(asScript(l), "\n", "/")+"opt "+strconv.Itoa(wrong), l)
		}
	}
	checkAnswer(t, "what", "opt", "opt ", "opt  ", "opt 1 ", "opt  1", " opt 1", "opt 1 1", "opt -1", "opt +1", "opt 01", "opt 00", "opt 1000000", "opt x", "opt 0x1", "Opt 1", "OPT 1", "op 1", "opts 1", "opt1", "optimise 1")
}

// Promise 18: what comes behind made steps; and these told again and again.
func TestLinesOptGoesOn(t *testing.T) {
	checkLines(t,
		linesCase{"get 0/out/trap/opt 15/get 1/out/run 5 2/valid/opt 15/run 5 2", "ok/ok/ok/at 5 5/ok/ok/trap 5/yes/at 5 5/trap 5"},
		linesCase{"const 7/set 0/opt 0/out/valid/opt 0/clear/opt 0", "ok/ok/at 5 7/ok/yes/at 5 15/ok/at 5 13"},
		linesCase{"opt 0/opt 0/opt 0/opt 15/run 5 2/opt 16/opt 4", "at 5 13/at 5 37/at 4 37/at 5 13/end/no/at 5 37"},
		linesCase{"drop/opt 0/valid/clear/opt 0/drop/opt 0/valid", "ok/no/not 2 0/ok/at 5 13/ok/at 5 37/yes"},
	)
}

// Promise 18: how long numbers are; each of few digits, and those near where one byte more is needed.
func TestLinesLeb(t *testing.T) {
	checkAnswer(t, "long 1", "leb 0", "leb 1", "leb 9", "leb 10", "leb 99", "leb 100", "leb 126", "leb 127")
	checkAnswer(t, "long 2", "leb 128", "leb 129", "leb 300", "leb 9999", "leb 10000", "leb 16382", "leb 16383")
	checkAnswer(t, "long 3", "leb 16384", "leb 16385", "leb 65535", "leb 65536", "leb 99999", "leb 100000", "leb 999998", "leb 999999")
	checkAnswer(t, "what", "leb 1000000", "leb 9999999", "leb 2097152", "leb 4294967295", "leb 9223372036854775808", "leb -1", "leb -0", "leb +1", "leb 00", "leb 01", "leb 000001", "leb 0000000", "leb 1.0", "leb 1e3", "leb 0x10", "leb 1_0", "leb ,1", "leb ٣", "leb \x00")
	checkAnswer(t, "what", "leb", "leb ", "leb  ", "leb  1", "leb 1 ", " leb 1", "leb 1 1", "leb a", "Leb 1", "LEB 1", "le 1", "lebs 1", "leb1", "leb\t1")
	var numbers []int
	for n := range 17000 {
		numbers = append(numbers, n, 999999-n*58)
	}
	for some := range slices.Chunk(numbers, 80) {
		lines, want := "", ""
		for _, n := range some {
			lines += "leb " + strconv.Itoa(n) + "\n"
			want += "long " + strconv.Itoa(len(numberByHand(n))) + "\n"
		}
		if got := impl.RunLines(lines); got != want {
			t.Fatalf("RunLines(%q): %q", lines, got)
		}
	}
}

// leftOver tells what is left of a text where two bytes a, or two bytes b, next to each other go, and they may change places: of each stretch of them whether there is one of each.
func leftOver(s string) string {
	stretch := regexp.MustCompile(`[ab]+`)
	return stretch.ReplaceAllStringFunc(s, func(part string) string {
		return strings.Repeat("a", strings.Count(part, "a")%2) + strings.Repeat("b", strings.Count(part, "b")%2)
	})
}

// Promise 18: the empty text, texts that the rules leave, that they make empty, and all others that are short.
func TestLinesNormal(t *testing.T) {
	checkAnswer(t, "is ", "normal ", "normal aa", "normal bb", "normal abba", "normal abab", "normal baba", "normal aabb", "normal "+strings.Repeat("a", 40), "normal "+strings.Repeat("ba", 20), "normal "+strings.Repeat("ab", 20))
	checkAnswer(t, "is ab", "normal ab", "normal ba", "normal aaba", "normal bbba", "normal "+strings.Repeat("ba", 19))
	checkLines(t, linesCase{"normal a/normal b/normal c/normal abcd/normal dcba/normal cacbc/normal baccab/normal acaca/normal bab/normal dd", "is a/is b/is c/is abcd/is dcab/is cacbc/is abccab/is acaca/is a/is dd"})
	texts := allTexts(4, 6)
	for _, s := range texts {
		if got := impl.RunLines("normal " + s + "\n"); got != "is "+leftOver(s)+"\n" {
			t.Errorf("normal %q: %q", s, got)
		}
		checkScript(t, "normal "+s+"\n")
	}
	if len(texts) != 5461 {
		t.Error(len(texts))
	}
}

// Promise 18: texts that NormalOf does not take: other bytes, too many of them, and such that need too many times.
func TestLinesNormalNo(t *testing.T) {
	checkAnswer(t, "no",
		"normal e", "normal abe", "normal A", "normal aB", "normal 0", "normal 5", "normal -", "normal a\t", "normal \x00", "normal a\xff", "normal é", "normal normal", "normal "+strings.Repeat("a", 41), "normal "+strings.Repeat("c", 41),
		"normal "+strings.Repeat("d", 1000), "normal "+strings.Repeat("a", 40)+"e", "normal "+strings.Repeat("b", 20)+strings.Repeat("a", 20),
	)
	checkAnswer(t, "what", "normal", "normal  ", "normal  a", "normal a ", "normal a b", "normal a  b", " normal a", "normal   ", "Normal a", "NORMAL a", "norma a", "normals a", "normala", "normal\ta")
	// 20 times two of them go; just as many times as there may be are left for two to change places, and one more
	as, bs := strings.Repeat("a", 19), strings.Repeat("b", 19)
	for _, c := range []struct {
		text   string
		times  int
		answer string
	}{{"ab" + bs + as, 400, "is "}, {"ba" + bs + as, 401, "no"}, {"b" + bs + as + "a", 420, "no"}, {bs + "ab" + as, 419, "no"}, {"aa" + bs + "b" + as[1:], 380, "is "}, {"c" + bs + as + "a", 380 + 19, "is cb"}} {
		if times := timesOf(strings.Trim(c.text, "c")) + strings.Count(c.text, "a")/2 + strings.Count(c.text, "b")/2; times != c.times {
			t.Error(c.text, times)
		}
		checkAnswer(t, c.answer, "normal "+c.text)
	}
}

// wordLines are written lines of each kind.
const wordLines = "const 5/const 65535/get 1/set 7/add/sub/mul/div/less/eq/load/store/out/drop/trap/block/loop/if/else/end/br 1/brif 8/table 0 2 1/clear/valid/run 5 2/run 65535 10/opt 15/opt 0/leb 300/leb 999999/normal /normal abba/normal baccab//fly"

// Promise 18: what a line comes to where a byte goes, another one comes, or one takes the place of another.
func TestLinesNearly(t *testing.T) {
	const others = " 0159-+.,aAbdnz\t\r\x00\xff\xa0"
	const ahead, behind = "get 0\nout\n", "valid\nrun 1 2\n"
	kinds := map[string]int{}
	for line := range strings.SplitSeq(wordLines, "/") {
		nearly := []string{line, strings.ToUpper(line), strings.ToUpper(line[:min(1, len(line))]) + line[min(1, len(line)):], line + line, line + " " + line, strings.ReplaceAll(line, " ", "  "), strings.ReplaceAll(line, " ", ""), strings.ReplaceAll(line, " ", "\t"), line + "\n" + line}
		for at := range len(line) + 1 {
			for _, b := range []byte(others) {
				nearly = append(nearly, line[:at]+string([]byte{b})+line[at:])
				if at < len(line) {
					nearly = append(nearly, line[:at]+string([]byte{b})+line[at+1:])
				}
			}
			if at < len(line) {
				nearly = append(nearly, line[:at]+line[at+1:], line[:at]+"\n"+line[at:])
			}
		}
		for _, other := range nearly {
			h, ok := checkScript(t, ahead+other+"\n"+behind)
			if !ok {
				t.Fatalf("%q", other)
			}
			kinds[strings.SplitN(h.answers[2], " ", 2)[0]]++
		}
	}
	for _, kind := range strings.Fields("ok no what end at long is") {
		if kinds[kind] < 15 {
			t.Errorf("so few of: %v", kinds)
		}
	}
	if kinds["what"] < 4000 {
		t.Errorf("so few of: %v", kinds)
	}
}

// Promise 18: all forms of a number, wherever a line has one.
func TestLinesNumbers(t *testing.T) {
	forms := []string{
		"0", "1", "7", "8", "9", "10", "15", "16", "99", "100", "999", "1000", "9999", "10000", "65535", "65536", "99999", "100000", "123456", "999999", "1000000", "9999999", "10000000", "4294967296", "9223372036854775807", "9223372036854775808", "18446744073709551616", "18446744073709551617",
		"00", "01", "007", "000000", "000001", "0000001", "0100", "-0", "+0", "-1", "+1", "-", "+", "--1", "", " ", "1 ", " 1", "1.", "1.0", ".1", "1e1", "1E1", "0x1", "0b1", "0o1", "1_0", "_1", "1_", "1,000", "x", "one", "1a", "a1", "1\t", "\t1", "1\r", "\x001", "1\x00", "\xff", "٣", "１", "²", "½", strings.Repeat("1", 400), strings.Repeat("0", 400) + "1", "NaN", "Inf", "nil",
	}
	for _, form := range forms {
		for _, frame := range []string{"leb #", "opt #", "run # 1", "run 1 #", "run # #", "const #", "get #", "set #", "br #", "brif #", "table # 0", "table 0 #", "table 0 # 1", "table 0 0 0 0 #", "normal #", "normal a#", "clear#", "clear #", "valid #", "add #", "trap#", "#", "# 1", "leb#", "leb # 1", "opt 1 #"} {
			h, ok := checkScript(t, strings.ReplaceAll(frame, "#", form)+"\n")
			if !ok || len(h.answers) != 1 {
				t.Fatal(frame, form)
			}
		}
	}
}

// Promise 18: all scripts of few lines.
func TestLinesAllShort(t *testing.T) {
	for _, c := range []struct {
		lines string
		most  int
	}{
		{"get 0/const 3/out/drop/trap/block/end/br 0/clear/valid/run 1 2/opt 0/opt 15/opt 16/normal ba/leb 200/what", 3},
		{"get 0/out/trap/clear/valid/run 1 2/opt 15", 4},
		{"loop/br 0/end/run 1 2/valid/opt 0", 5},
	} {
		lines := strings.Split(c.lines, "/")
		texts := []string{""}
		for range c.most {
			var longer []string
			for _, text := range texts {
				for _, line := range lines {
					longer = append(longer, text+line+"\n")
				}
			}
			texts = longer
		}
		for _, text := range texts { // shorter ones are what is left of these, cut behind a line
			checkScript(t, text)
		}
	}
}

// drawnLine tells a line that is none of a step's, mostly one that asks for something.
func drawnLine(pick func(int) int) string {
	number := func() int { return []int{pick(8), pick(20), pick(300), pick(70000), pick(1100000)}[pick(5)] }
	switch pick(11) {
	case 0:
		return "clear"
	case 1, 2:
		return "valid"
	case 3, 4, 5:
		return fmt.Sprintf("run %d %d", []int{pick(4), pick(4), number()}[pick(3)], []int{pick(4), pick(4), number()}[pick(3)])
	case 6, 7:
		return fmt.Sprintf("opt %d", []int{pick(16), pick(16), pick(16), number()}[pick(4)])
	case 8:
		return fmt.Sprintf("leb %d", number())
	case 9:
		return "normal " + drawnText(pick, 1+pick(4), []int{6, 40, 42}[pick(3)])
	}
	lines := strings.Split(wordLines, "/")
	return spoiltLine(lines[pick(len(lines))], pick)
}

// spoiltLine tells a line of which some bytes became others, came, or went.
func spoiltLine(line string, pick func(int) int) string {
	for range 1 + pick(2) {
		at, b := pick(len(line)+1), " 0123456789 abcdefghijklmnopqrstuvwxyz-+\x00\xff"[pick(40)]
		switch behind := line[min(at+1, len(line)):]; pick(3) {
		case 0:
			line = line[:at] + string([]byte{b}) + behind
		case 1:
			line = line[:at] + string([]byte{b}) + line[at:]
		default:
			line = line[:at] + behind
		}
	}
	return line
}

// drawnPiece tells lines of code that is mostly valid, and lines that ask for something.
func drawnPiece(pick func(int) int) []string {
	l := grownCode(pick)
	if pick(3) == 0 {
		l = l[:pick(len(l)+1)]
	}
	if at := pick(len(l) + 1); pick(3) == 0 {
		l = slices.Insert(l, at, code([]string{"drop", "const 1", many("get 0", 5), "out, out", "end", many("get 1, brif 0", 8), "get 1, out, loop, br 0, end", "get 1, out"}[pick(8)])...)
	}
	var lines []string
	for _, x := range l {
		if lines = append(lines, textByHand(x)); pick(100) == 0 {
			lines = append(lines, drawnLine(pick))
		}
	}
	if pick(2) == 0 {
		lines = append(lines, "valid")
	}
	lines = append(lines, fmt.Sprintf("run %d %d", pick(6), pick(6)))
	if pick(2) == 0 {
		lines = append(lines, fmt.Sprintf("opt %d", pick(16)))
	}
	for range pick(5) {
		lines = append(lines, drawnLine(pick))
	}
	if pick(4) > 0 {
		lines = append(lines, "clear")
	}
	return lines
}

// drawnScript tells a script of such pieces, of as many lines as there may be, or of fewer.
func drawnScript(pick func(int) int) string {
	most := []int{pick(12), pick(81), 80, 80}[pick(4)]
	var lines []string
	for len(lines) < most {
		lines = append(lines, drawnPiece(pick)...)
	}
	for len(allLines(lines, most)) > 2500 {
		most--
	}
	return allLines(lines, most)
}

// tallyLines counts what was answered.
type tallyLines struct {
	answers map[string]int
	full    int // steps that were refused
	none    int // texts that are no scripts
	most    int // scripts of as many lines as there may be
}

func (c *tallyLines) count(h handScript, is bool) {
	if !is {
		c.none++
		return
	}
	if len(h.lines) == 80 {
		c.most++
	}
	for at, answer := range h.answers {
		words := strings.Split(answer, " ")
		kind := words[0]
		switch {
		case kind == "not" || kind == "at" || kind == "long":
			kind += words[1]
		case len(words) > 1 && answer != "is ":
			kind += " .."
		}
		c.answers[kind]++
		if _, step := stepTexts()[h.lines[at]]; step && answer == "no" {
			c.full++
		}
	}
}

// Promise 18: drawn scripts, cut behind each of their lines, and with other lines behind each of their lines.
func TestLinesDrawn(t *testing.T) {
	pick := someSource()
	c := tallyLines{answers: map[string]int{}}
	for range 400 {
		h, ok := checkScript(t, drawnScript(pick))
		c.count(h, ok)
		other := strings.SplitAfter(drawnScript(pick), "\n")
		for many := range h.lines {
			room := 80 - many
			behind := strings.Join(other[:min(room, len(other))], "")
			if len(allLines(h.lines, many))+len(behind) <= 2500 && pick(4) == 0 {
				h.checkTold(t, many, behind)
			}
		}
	}
	for _, kind := range strings.Fields("ok no what yes not1 not2 not3 end trap more at5 long1 long2 long3 is") {
		if c.answers[kind] < 15 {
			t.Errorf("so few of %s: %+v", kind, c)
		}
	}
	if min(c.answers["end .."], c.answers["trap .."], c.answers["more .."], c.answers["is .."], c.full, c.most) < 8 || min(c.answers["at2"], c.answers["at3"], c.answers["at4"], c.answers["not4"]) < 5 || c.none > 0 {
		t.Errorf("so few of: %+v", c)
	}
}

// Promise 18: what steps are made by passes tell the same, where fuel suffices.
func TestLinesOptRuns(t *testing.T) {
	pick := someSource()
	alike, other := 0, 0
	for range 400 {
		lines := asScript(grownCode(pick))
		run := fmt.Sprintf("run %d %d\n", pick(6), pick(6))
		told := strings.SplitAfter(impl.RunLines(lines+run+fmt.Sprintf("opt %d\n", pick(16))+run), "\n")
		before, behind := told[len(told)-4], told[len(told)-2]
		switch {
		case strings.HasPrefix(before, "more") || strings.HasPrefix(behind, "more"):
			other++
		case before != behind:
			t.Fatalf("%s%s: %s, and then %s", lines, run, before, behind)
		default:
			alike++
		}
	}
	if alike < 200 || other < 20 {
		t.Errorf("so few of: %d, %d", alike, other)
	}
}

// Promises 18 and 19: drawn scripts of which some bytes became others, came, or went; and any bytes.
func TestLinesAnything(t *testing.T) {
	pick := someSource()
	c := tallyLines{answers: map[string]int{}}
	for range 1500 {
		bytes := []byte(drawnScript(pick))
		if pick(4) == 0 {
			bytes = make([]byte, pick([]int{4, 40, 400, 2600}[pick(4)]))
			for i := range bytes {
				bytes[i] = byte(pick(256))
			}
		}
		for range pick(4) {
			if len(bytes) > 0 {
				bytes[pick(len(bytes))] = []byte("\n\n\n 0\x00\xff\r")[pick(8)]
			}
		}
		if pick(2) == 0 {
			bytes = append(bytes, '\n')
		}
		text := string(bytes)
		h, ok := scriptByHand(text)
		if !ok {
			checkNoScript(t, text)
		} else {
			h.checkTold(t, len(h.lines), "")
			h.checkTold(t, pick(len(h.lines)+1), "")
		}
		c.count(h, ok)
	}
	if c.none < 200 || min(c.answers["what"], c.answers["ok"], c.answers["yes"], c.answers["at5"]) < 100 {
		t.Errorf("so few of: %+v", c)
	}
}

// Promise 19: what CodeOf tells is new memory each time, and no two Tables share any; behind a script nothing is read, though there be something.
func TestLinesAnswersAreNew(t *testing.T) {
	for _, lines := range []string{
		"get 0/table 0 1/table 1 2 3 4 0/const 5/table 0 0 0", "block/block/get 0/table 0 1 0/end/const 7/out/end/get 1/table 0 0", "block/block/get 0/table 0 1 0/end/const 7/out/end/get 1/table 0 0/opt 0",
		"table 1 1/clear/table 2 2/table 3 3/valid", strings.Repeat("get 1/table 0 0/", 29) + "trap/opt 15", "get 0/trap/table 0 1/opt 15/table 0 0 0", "opt 15/get 0/table 0 0/opt 15",
	} {
		text := script(lines)
		h, _ := checkScript(t, text)
		if len(h.steps[len(h.lines)]) == 0 {
			t.Error(lines)
		}
		told := impl.RunLines(text)
		checkStepsAreNew(t, func() []impl.Step { got, _ := impl.CodeOf(text); return got }, func() bool { return impl.RunLines(text) == told })
		long := text + "clear\nclear\n"
		if got, ok := impl.CodeOf(long[:len(text)]); !sameSteps(got, h.steps[len(h.lines)]) || !ok || impl.RunLines(long[:len(text)]) != told {
			t.Errorf("%s: %v %v", lines, got, ok)
		}
	}
}
