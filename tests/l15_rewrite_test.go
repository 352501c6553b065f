package tests

import (
	"regexp"
	"slices"
	"strings"
	"testing"

	"loop.example/g00373/impl"
)

// sorting puts the bytes of a text in order: it comes to its end in as many times as there are two that stand the wrong way round.
const sorting = "ba ab, ca ac, da ad, cb bc, db bd, dc cd"

// mirrors are those of a triangle: each undoes itself, and of two of them it is all one which is the first and the last of three.
const mirrors = "aa, bb, bab aba"

// Texts that are made of one come to their ends in just as many times as there may be (inTime), in one more (late), and in far more (endless).
const (
	endless = "db cd, addd addc, c b, bdddd bddcd, baa add, aaaaab ddddc, bdd add, dddddd dddcbc"
	inTime  = "dcbca cbada, b a, c b, da cd, dd dc, caddbc, aaaa ddd, ddcacc dcdbcb"
	late    = "aaaaab ddbad, bcbddd acbbdb, badddd addabb, ca bd, da cb, dbbcba cddddd, b a, ad ab"
)

// rules tells written ones: From and To of each; From alone, where To is empty.
func rules(text string) []impl.Rule {
	var l []impl.Rule
	for x := range strings.SplitSeq(text, ",") {
		if both := append(strings.Fields(x), "", ""); both[0] != "" {
			l = append(l, impl.Rule{From: both[0], To: both[1]})
		}
	}
	return l
}

// lessByLength tells whether a text is ahead of another one among all texts, the shorter ones being ahead of the longer ones.
func lessByLength(a string, b string) bool {
	if len(a) != len(b) {
		return len(a) < len(b)
	}
	for i := range len(a) {
		if a[i] != b[i] {
			return a[i] < b[i]
		}
	}
	return false
}

var (
	anyFrom = regexp.MustCompile(`^[a-d]{1,6}$`)
	anyTo   = regexp.MustCompile(`^[a-d]{0,6}$`)
	anyWord = regexp.MustCompile(`^[a-d]{0,40}$`)
)

// goodRulesByHand tells of any rules whether they are good.
func goodRulesByHand(l []impl.Rule) bool {
	for _, x := range l {
		if !anyFrom.MatchString(x.From) || !anyTo.MatchString(x.To) || !lessByLength(x.To, x.From) {
			return false
		}
	}
	return len(l) <= 8
}

// onceByHand tells what comes of a text by good rules.
func onceByHand(l []impl.Rule, s string) []string {
	var texts []string
	for _, x := range l {
		for at := strings.Index(s, x.From); at >= 0; {
			texts = append(texts, s[:at]+x.To+s[at+len(x.From):])
			behind := strings.Index(s[at+1:], x.From)
			if behind < 0 {
				break
			}
			at += 1 + behind
		}
	}
	return texts
}

// goneOn goes on with the text that is picked of those that come of one, as long as there are such, at most 400 times.
func goneOn(l []impl.Rule, s string, pick func(int) int) (string, int, bool) {
	return goneFor(l, s, pick, 400)
}

// goneFor goes on likewise, at most so many times.
func goneFor(l []impl.Rule, s string, pick func(int) int, most int) (string, int, bool) {
	for times := range most + 1 {
		all := onceByHand(l, s)
		if len(all) == 0 {
			return s, times, true
		}
		s = all[pick(len(all))]
	}
	return "", 0, false
}

// pairsByHand tells what each two good rules make of one text.
func pairsByHand(l []impl.Rule) [][]string {
	var pairs [][]string
	for i, x := range l {
		for j, y := range l {
			for many := range 6 {
				if many > 0 && many < len(x.From) && many < len(y.From) && strings.HasSuffix(x.From, y.From[:many]) {
					pairs = append(pairs, []string{x.To + y.From[many:], x.From[:len(x.From)-many] + y.To})
				}
			}
			for at := range len(x.From) {
				if i != j && strings.HasPrefix(x.From[at:], y.From) {
					pairs = append(pairs, []string{x.To, x.From[:at] + y.To + x.From[at+len(y.From):]})
				}
			}
		}
	}
	return pairs
}

// confluentByHand tells of good rules whether all pairs come to one end each, and whether that is told.
func confluentByHand(l []impl.Rule) (bool, bool) {
	is := true
	for _, pair := range pairsByHand(l) {
		a, _, endsA := goneOn(l, pair[0], firstOf)
		b, _, endsB := goneOn(l, pair[1], firstOf)
		if !endsA || !endsB {
			return false, false
		}
		is = is && a == b
	}
	return is, true
}

func sameTexts(a [][]string, b [][]string) bool { return slices.EqualFunc(a, b, slices.Equal) }

func copyTexts(l [][]string) [][]string {
	var out [][]string
	for _, texts := range l {
		out = append(out, slices.Clone(texts))
	}
	return out
}

// checkText holds what good rules make of a text against what is worked out by hand.
func checkText(t *testing.T, l []impl.Rule, s string) {
	t.Helper()
	if got, ok := impl.OnceBy(l, s); !slices.Equal(got, onceByHand(l, s)) || !ok {
		t.Fatalf("OnceBy(%v, %q): %q %v, not %q", l, s, got, ok, onceByHand(l, s))
	}
	want, times, ends := goneOn(l, s, firstOf)
	if got, many, ok := impl.NormalOf(l, s); got != want || many != times || ok != ends {
		t.Fatalf("NormalOf(%v, %q): %q %d %v, not %q %d %v", l, s, got, many, ok, want, times, ends)
	}
	last, _, ends := goneOn(l, s, lastOf)
	if got, ok := impl.LastOf(l, s); got != last || ok != ends {
		t.Fatalf("LastOf(%v, %q): %q %v, not %q %v", l, s, got, ok, last, ends)
	}
}

// checkJoined holds JoinedBy against what is worked out by hand; it tells that.
func checkJoined(t *testing.T, l []impl.Rule, a string, b string) (bool, bool) {
	t.Helper()
	endA, _, endsA := goneOn(l, a, firstOf)
	endB, _, endsB := goneOn(l, b, firstOf)
	ends := endsA && endsB
	joined := ends && endA == endB
	for _, two := range [][2]string{{a, b}, {b, a}} {
		if got, ok := impl.JoinedBy(l, two[0], two[1]); got != joined || ok != ends {
			t.Fatalf("JoinedBy(%v, %q): %v %v, not %v %v", l, two, got, ok, joined, ends)
		}
	}
	return joined, ends
}

// checkRules holds all that is told of good rules, and what they make of texts, against what is worked out by hand; it tells what IsConfluent tells.
func checkRules(t *testing.T, l []impl.Rule, texts ...string) (bool, bool) {
	t.Helper()
	before := slices.Clone(l)
	if !impl.GoodRules(l) || !goodRulesByHand(l) {
		t.Fatalf("GoodRules(%v)", l)
	}
	for i, s := range texts {
		checkText(t, l, s)
		checkJoined(t, l, s, texts[(i+1)%len(texts)])
	}
	want := pairsByHand(l)
	if got, ok := impl.CriticalPairs(l); !sameTexts(got, want) || !ok {
		t.Fatalf("CriticalPairs(%v): %q %v, not %q", l, got, ok, want)
	}
	confluent, told := confluentByHand(l)
	if is, ok := impl.IsConfluent(l); is != confluent || ok != told {
		t.Fatalf("IsConfluent(%v): %v %v, not %v %v", l, is, ok, confluent, told)
	}
	if !slices.Equal(l, before) {
		t.Fatalf("%v was %v", l, before)
	}
	return confluent, told
}

// checkNoText looks at what is told of rules and of a text, where one of them is not as said.
func checkNoText(t *testing.T, l []impl.Rule, s string) {
	t.Helper()
	before := slices.Clone(l)
	if got, ok := impl.OnceBy(l, s); len(got) != 0 || ok {
		t.Errorf("OnceBy(%v, %q): %q %v", l, s, got, ok)
	}
	if got, many, ok := impl.NormalOf(l, s); got != "" || many != 0 || ok {
		t.Errorf("NormalOf(%v, %q): %q %d %v", l, s, got, many, ok)
	}
	if got, ok := impl.LastOf(l, s); got != "" || ok {
		t.Errorf("LastOf(%v, %q): %q %v", l, s, got, ok)
	}
	for _, two := range [][2]string{{s, s}, {s, ""}, {"", s}, {"abc", s}, {s, "abc"}} {
		if got, ok := impl.JoinedBy(l, two[0], two[1]); got || ok {
			t.Errorf("JoinedBy(%v, %q): %v %v", l, two, got, ok)
		}
	}
	if !slices.Equal(l, before) {
		t.Errorf("%v was %v", l, before)
	}
}

// checkNoRules looks at what is told of rules that are not good.
func checkNoRules(t *testing.T, l []impl.Rule) {
	t.Helper()
	if impl.GoodRules(l) || goodRulesByHand(l) {
		t.Errorf("GoodRules(%v)", l)
	}
	if got, ok := impl.CriticalPairs(l); len(got) != 0 || ok {
		t.Errorf("CriticalPairs(%v): %q %v", l, got, ok)
	}
	if is, ok := impl.IsConfluent(l); is || ok {
		t.Errorf("IsConfluent(%v): %v %v", l, is, ok)
	}
	for _, s := range []string{"", "a", "abcd", "e", strings.Repeat("a", 41)} {
		checkNoText(t, l, s)
	}
}

// drawnText tells a text of the first so many letters, of at most so many bytes.
func drawnText(pick func(int) int, letters int, most int) string {
	var text strings.Builder
	for range pick(most + 1) {
		text.WriteByte("abcd"[pick(letters)])
	}
	return text.String()
}

// drawnRule tells a good rule of the first so many letters, From being at most so long.
func drawnRule(pick func(int) int, letters int, most int) impl.Rule {
	for {
		x := impl.Rule{From: drawnText(pick, letters, most), To: drawnText(pick, letters, most)}
		if lessByLength(x.To, x.From) {
			return x
		}
	}
}

// drawnRules tells good rules, few or many, of few letters or of all, of short texts or of long ones.
func drawnRules(pick func(int) int) []impl.Rule {
	letters, most := 1+pick(4), 1+pick(6)
	var l []impl.Rule
	for range pick(9) {
		l = append(l, drawnRule(pick, letters, most))
	}
	return l
}

// completed tells rules with others behind them, by which the two texts of each pair come to one end; false, where there are no such, not so many, or not so soon.
func completed(l []impl.Rule) ([]impl.Rule, bool) {
	l = slices.Clone(l)
	for goodRulesByHand(l) {
		grown := false
		for _, pair := range pairsByHand(l) {
			a, _, endsA := goneOn(l, pair[0], firstOf)
			b, _, endsB := goneOn(l, pair[1], firstOf)
			if !endsA || !endsB {
				return nil, false
			}
			if lessByLength(a, b) {
				a, b = b, a
			}
			if grown = a != b; grown {
				l = append(l, impl.Rule{From: a, To: b})
				break
			}
		}
		if !grown {
			return l, true
		}
	}
	return nil, false
}

// Chapter 15: the limits.
func TestRewriteConstants(t *testing.T) {
	if impl.MaxRules != 8 || impl.MaxWord != 40 || impl.MaxTimes != 400 {
		t.Error(impl.MaxRules, impl.MaxWord, impl.MaxTimes)
	}
}

// ShortLess: all texts of a row, each ahead of those behind it, and of none else.
func TestRewriteLess(t *testing.T) {
	row := []string{
		"", "\x00", "A", "`", "a", "b", "c", "d", "e", "\x7f", "\x80", "\xff",
		"\x00\xff", "aa", "ab", "ad", "ba", "dd", "e ", "\xc3\xa9", "\xff\x00", "\xff\xfe",
		"\x00\x00\x00", "aaa", "aab", "baa", "ddd", "\xed\xa0\x80",
		"abcdabcd", "abcdabce", strings.Repeat("d", 40), strings.Repeat("a", 41), strings.Repeat("a", 100000), strings.Repeat("a", 99999) + "b", "b" + strings.Repeat("a", 99999), strings.Repeat("\x00", 100001),
	}
	for i, a := range row {
		for j, b := range row {
			if got := impl.ShortLess(a, b); got != (i < j) || got != lessByLength(a, b) {
				t.Errorf("ShortLess of texts %d and %d: %v", i, j, got)
			}
		}
	}
	some := "\x00`abdez\xff"
	for _, a := range some {
		for _, b := range some {
			for _, x := range []string{"", string(a), string(a) + string(b)} {
				for _, y := range []string{"", string(b), string(b) + string(a), string(a)} {
					if impl.ShortLess(x, y) != lessByLength(x, y) {
						t.Errorf("ShortLess(%q, %q)", x, y)
					}
				}
			}
		}
	}
}

// GoodRules: the limits of lists, From and To.
func TestRewriteGood(t *testing.T) {
	for _, text := range []string{
		"", "a", "b", "d", "b a", "d c", "d a", "aa", "aa d", "aa a", "ba ab", "ba aa", "dddddd", "dddddd dddddc", "aaaaab aaaaaa", "aaaaaa ddddd", "baaaaa addddd", "abcabd abcabc",
		"a, a", "a, a, a, a, a, a, a, a", "b a, b a", "a, b, c, d, aa, bb, cc, dd", "b a, c b, d c, aa d, bb aa, cc bb, dd cc, aaa dd",
	} {
		checkRules(t, rules(text), "", "a", "abcd", "dddddd")
	}
	for _, l := range [][]impl.Rule{
		rules("a, a, a, a, a, a, a, a, a"), rules("a, b, c, d, aa, bb, cc, dd, ab"), slices.Repeat(rules("b a"), 100000),
		{{}}, {{To: "a"}}, {{From: "a"}, {}}, {{}, {From: "a"}},
		rules("aaaaaaa"), rules("aaaaaaa a"), rules("ddddddd aaaaaaa"), rules("aaaaaa aaaaaaa"), rules("ddddddddd dddddddda"), {{From: strings.Repeat("d", 100000)}}, {{From: "d", To: strings.Repeat("a", 100000)}},
		rules("` "), rules("e"), rules("e a"), rules("b `"), rules("bb e"), rules("aa `"), rules("`a"), rules("ea"), rules("ae"), rules("abcde"), rules("bab a`a"), rules("dd e"), rules("aaa eb"), rules("aaa be"), rules("aaa `"),
		rules("A"), rules("a\x00"), rules("\x00"), rules("aa \x00"), rules("\xff"), rules("aa \xff"), rules("\xe1"), rules("a\xe1a"), rules("é"), rules("aaa é"), rules("\xed\xa0\x80 a"), {{From: "a "}}, {{From: "a b"}}, {{From: "aa", To: " "}}, {{From: "a,"}}, {{From: "a\n"}}, {{From: "bb", To: "a\n"}},
		rules("a a"), rules("dddddd dddddd"), rules("ab ab"), rules("a b"), rules("aa ab"), rules("aaaaaa aaaaab"), rules("d aa"), rules("dd aaa"), rules("ddddd aaaaaa"), rules("ab ba"),
		rules("a, b, c, d, aa, bb, cc, d d"), rules("a a, b"), rules("a, b, c c, d"),
	} {
		checkNoRules(t, l)
	}
}

// GoodRules: each byte in From, and in To, at each place.
func TestRewriteGoodBytes(t *testing.T) {
	for n := range 256 {
		c := string([]byte{byte(n)})
		is := c == "a" || c == "b" || c == "c" || c == "d"
		for _, x := range []impl.Rule{{From: c}, {From: c + "dd"}, {From: "d" + c + "d"}, {From: "dd" + c}, {From: "ddd", To: c}, {From: "dddd", To: c + "dd"}, {From: "dddd", To: "d" + c + "d"}, {From: "dddd", To: "dd" + c}} {
			l := []impl.Rule{{From: "a"}, x}
			if impl.GoodRules(l) != is || goodRulesByHand(l) != is {
				t.Errorf("GoodRules(%q)", l)
			}
			if !is {
				checkNoRules(t, l)
			}
		}
		for _, s := range []string{c, c + "abab", "ab" + c + "ab", "abab" + c} {
			if is {
				checkText(t, rules("ba ab, ab"), s)
			} else {
				checkNoText(t, rules("ba ab, ab"), s)
				checkNoText(t, nil, s)
			}
		}
	}
}

// onceCase is what comes of a text by written rules, one blank between each two texts.
type onceCase struct{ rules, text, want string }

// OnceBy: by the rule, then by the place.
func TestRewriteOnce(t *testing.T) {
	for _, c := range []onceCase{
		{"aa b", "bcd", ""}, {"aa b", "a", ""}, {"aa b", "abab", ""}, {"dddddd", "ddddd", ""},
		{"aa b", "aa", "b"}, {"aa b", "caad", "cbd"}, {"aa b", "aac", "bc"}, {"aa b", "caa", "cb"}, {"abcdab d", "abcdab", "d"},
		// more often
		{"ab c", "abdab", "cdab abdc"}, {"b a", "bab", "aab baa"}, {"d c", "dddd", "cddd dcdd ddcd dddc"},
		// over itself
		{"aa b", "aaaa", "baa aba aab"}, {"aba b", "ababa", "bba abb"}, {"aba", "abababa", "baba abba abab"}, {"abab a", "ababab", "aab aba"}, {"aaa b", "aaaaa", "baa aba aab"},
		// two rules at one place
		{"ab a, abc b", "dabcd", "dacd dbd"}, {"abc b, ab a", "dabcd", "dbd dacd"}, {"ba ab, ba b", "ba", "ab b"}, {"b a, ba ab, bab", "babb", "aabb baab baba abbb b"},
		// by the rule, then by the place
		{"b a, aa b", "aabaab", "aaaaab aabaaa bbaab aabbb"}, {"aa b, b a", "aabaab", "bbaab aabbb aaaaab aabaaa"}, {"d a, c a, b a", "bcdbcd", "bcabcd bcdbca badbcd bcdbad acdbcd bcdacd"},
		// texts that come twice
		{"aaa bb, aaa bb", "aaa", "bb bb"}, {"aa a", "aaa", "aa aa"}, {"ab a, bb b", "abb", "ab ab"}, {"ba ab, ba ab", "baba", "abba baab abba baab"}, {"dc d, cd d", "dcd", "dd dd"},
		// as many rules as can be
		{"b a, b a, b a, b a, b a, b a, b a, c a", "cb", "ca ca ca ca ca ca ca ab"},
		{"", "", ""}, {"", "abab", ""}, {"b a", "", ""},
	} {
		l, want := rules(c.rules), strings.Fields(c.want)
		got, ok := impl.OnceBy(l, c.text)
		if !slices.Equal(got, want) || !ok {
			t.Errorf("OnceBy(%v, %q): %q %v, not %q", l, c.text, got, ok, want)
		}
		checkRules(t, l, c.text)
	}
}

// OnceBy: To is empty, and so may be what comes.
func TestRewriteOnceToNothing(t *testing.T) {
	for _, c := range []struct {
		rules, text string
		want        []string
	}{
		{"a", "a", []string{""}}, {"abcdab", "abcdab", []string{""}}, {"a", "aa", []string{"a", "a"}}, {"aa", "aaa", []string{"a", "a"}}, {"a, a", "a", []string{"", ""}},
		{"ab", "cabd", []string{"cd"}}, {"ab", "aabb", []string{"ab"}}, {"ab, b a", "ab", []string{"", "aa"}}, {"b a, ab", "ab", []string{"aa", ""}}, {"aa, bb", "aabb", []string{"bb", "aa"}},
	} {
		if got, ok := impl.OnceBy(rules(c.rules), c.text); !slices.Equal(got, c.want) || !ok {
			t.Errorf("OnceBy(%s, %q): %q %v, not %q", c.rules, c.text, got, ok, c.want)
		}
		checkRules(t, rules(c.rules), c.text)
	}
}

// Texts of as many bytes as can be, and of more; and of other bytes.
func TestRewriteLongTexts(t *testing.T) {
	long := strings.Repeat("abcd", 10)
	for _, text := range []string{"", "ba ab", sorting, "a", "d c", "abcd dc", "cdab, da", "dddddd", "aaaaaa b"} {
		l := rules(text)
		for _, s := range []string{long, long[1:], strings.Repeat("a", 40), strings.Repeat("d", 40), strings.Repeat("d", 39)} {
			checkText(t, l, s)
			checkJoined(t, l, s, "abcd")
		}
		for _, s := range []string{long + "a", long + "abcd", strings.Repeat("a", 41), strings.Repeat("d", 41), strings.Repeat("a", 100000), strings.Repeat("\xff", 41), long[1:] + "e", "e" + long[1:], long[:20] + "`" + long[21:], long + "\x00", "abab\n", "ab ab", "ABCD", "é", "ab\xc3", "a\xed\xa0\x80"} {
			checkNoText(t, l, s)
			checkNoText(t, append(l, impl.Rule{}), s)
		}
	}
	if got, ok := impl.OnceBy(rules("dc cd, a"), long); len(got) != 10 || !ok || got[9] != long[:36]+"bcd" {
		t.Error(got, ok)
	}
	if got, ok := impl.OnceBy(rules("d d, a"), "abab"); len(got) != 0 || ok {
		t.Error(got, ok)
	}
}

// endCase is to what a text comes by the first one each time, how often, and to what by the last one each time.
type endCase struct {
	rules, text, normal string
	times               int
	last                string
}

// NormalOf and LastOf: where nothing can be done, where both come to one end, and where they come to unlike ones.
func TestRewriteEnds(t *testing.T) {
	for _, c := range []endCase{
		{"", "", "", 0, ""}, {"", "abcd", "abcd", 0, "abcd"}, {"a", "", "", 0, ""}, {"a", "bcd", "bcd", 0, "bcd"}, {"ab", "ba", "ba", 0, "ba"},
		{"a", "a", "", 1, ""}, {"a", "abab", "bb", 2, "bb"}, {"d c, c b, b a", "d", "a", 3, "a"}, {"d c, c b, b a", "dd", "aa", 6, "aa"}, {"aa a", "aaaaaa", "a", 5, "a"}, {"aa", "aaaaa", "a", 2, "a"},
		{"ba ab", "bbaa", "aabb", 4, "aabb"}, {sorting, "dcba", "abcd", 6, "abcd"}, {sorting, "abcd", "abcd", 0, "abcd"}, {"ba ab, aa, bb", "abab", "", 3, ""}, {"ab", "aabbab", "", 3, ""}, {"ba ab, aa, bb", "aabab", "a", 3, "a"},
		// what is made is what the next rule needs
		{"abc b, bb a", "abcb", "a", 2, "a"}, {"dd c, cc b, bb a", "dddddddd", "a", 7, "a"},
		// unlike ends
		{"ab a, ba b", "aba", "aa", 1, "a"}, {"aa a, ab", "aab", "", 2, "a"}, {"ab, aa a", "aab", "a", 1, ""}, {"ab c, bc d", "abc", "cc", 1, "ad"}, {"bc d, ab c", "abc", "ad", 1, "cc"}, {"aa b", "aaa", "ba", 1, "ab"}, {"b a, b", "b", "a", 1, ""}, {"b, b a", "b", "", 1, "a"}, {"aba b", "ababa", "bba", 1, "abb"},
		// by the rule first, then by the place
		{"ba b, ab", "baba", "bb", 2, "b"}, {"ab, ba b", "baba", "b", 2, "bb"},
	} {
		l := rules(c.rules)
		if got, times, ok := impl.NormalOf(l, c.text); got != c.normal || times != c.times || !ok {
			t.Errorf("NormalOf(%s, %q): %q %d %v, not %q %d", c.rules, c.text, got, times, ok, c.normal, c.times)
		}
		if got, ok := impl.LastOf(l, c.text); got != c.last || !ok {
			t.Errorf("LastOf(%s, %q): %q %v, not %q", c.rules, c.text, got, ok, c.last)
		}
		checkRules(t, l, c.text, c.normal, c.last)
	}
}

// timesOf tells how many two bytes of a text stand the wrong way round.
func timesOf(s string) int {
	times := 0
	for i := range len(s) {
		for j := range i {
			if s[j] > s[i] {
				times++
			}
		}
	}
	return times
}

// NormalOf, LastOf and JoinedBy: just as many times as there may be, one less, and one more.
func TestRewriteTimes(t *testing.T) {
	l := rules(sorting)
	for _, c := range []struct {
		text  string
		times int
	}{
		{strings.Repeat("b", 20) + strings.Repeat("a", 20), 400},
		{strings.Repeat("b", 19) + "ab" + strings.Repeat("a", 19), 399},
		{strings.Repeat("d", 20) + strings.Repeat("b", 20), 400},
		{"c" + strings.Repeat("b", 18) + strings.Repeat("a", 20) + "b", 399},
		{strings.Repeat("b", 19) + "c" + strings.Repeat("a", 20), 400},
		{strings.Repeat("b", 18) + "cb" + strings.Repeat("a", 20), 401},
		{"c" + strings.Repeat("b", 19) + strings.Repeat("a", 20), 419},
		{strings.Repeat("d", 10) + strings.Repeat("c", 10) + strings.Repeat("b", 10) + strings.Repeat("a", 10), 600},
	} {
		end, ends := strings.Join(slices.Sorted(slices.Values(strings.Split(c.text, ""))), ""), c.times <= 400
		if timesOf(c.text) != c.times || len(c.text) > 40 {
			t.Fatalf("%q: %d times", c.text, timesOf(c.text))
		}
		want, times := end, c.times
		if !ends {
			want, times = "", 0
		}
		if got, many, ok := impl.NormalOf(l, c.text); got != want || many != times || ok != ends {
			t.Errorf("NormalOf(%q): %q %d %v, not %q %d", c.text, got, many, ok, want, times)
		}
		if got, ok := impl.LastOf(l, c.text); got != want || ok != ends {
			t.Errorf("LastOf(%q): %q %v, not %q", c.text, got, ok, want)
		}
		if joined, ok := checkJoined(t, l, c.text, end); joined != ends || ok != ends {
			t.Errorf("JoinedBy(%q, %q): %v %v", c.text, end, joined, ok)
		}
		checkRules(t, l, c.text, end)
	}
	// Bytes that go first need not be put in order, so just one of the two has an end in time.
	for _, c := range []struct {
		rules               string
		firstEnds, lastEnds bool
	}{{"a, ca ac, cb bc, ba ab", true, false}, {"ba ab, ca ac, cb bc, a", false, true}} {
		l, s := rules(c.rules), strings.Repeat("c", 14)+strings.Repeat("b", 13)+strings.Repeat("a", 13)
		if _, _, ok := impl.NormalOf(l, s); ok != c.firstEnds {
			t.Errorf("NormalOf(%s, %q): %v", c.rules, s, ok)
		}
		if _, ok := impl.LastOf(l, s); ok != c.lastEnds {
			t.Errorf("LastOf(%s, %q): %v", c.rules, s, ok)
		}
		checkRules(t, l, s)
	}
}

// JoinedBy: one end, two ends, no end in time, and texts that are none.
func TestRewriteJoined(t *testing.T) {
	long := strings.Repeat("d", 10) + strings.Repeat("c", 10) + strings.Repeat("b", 10) + strings.Repeat("a", 10)
	for _, c := range []struct {
		rules, a, b string
		joined, ok  bool
	}{
		{"", "", "", true, true}, {"", "ab", "ab", true, true}, {"", "ab", "ba", false, true}, {"", "a", "", false, true},
		{"ba ab, aa, bb", "ab", "ba", true, true}, {"ba ab, aa, bb", "abab", "", true, true}, {"ba ab, aa, bb", "ab", "a", false, true}, {"ba ab, aa, bb", "aaab", "bbba", true, true},
		{"aa", "aaa", "a", true, true}, {"aa", "aaa", "aa", false, true}, {"a, b", "abab", "bbb", true, true}, {"ba ab", "ba", "ab", true, true}, {"ba ab", "ba", "aab", false, true},
		// the first one of OnceBy each time: what else may come of it doesn't count
		{"b a, b", "b", "a", true, true}, {"b a, b", "b", "", false, true}, {"b, b a", "b", "", true, true}, {"aa b", "aaa", "ba", true, true}, {"aa b", "aaa", "ab", false, true},
		{sorting, long, "a", false, false}, {sorting, long, long, false, false}, {sorting, long[10:], strings.Repeat("abc", 10), true, true}, {sorting, long[10:], long[11:], false, true},
		{"", long, long, true, true}, {"", long + "a", long, false, false}, {"", long + "a", long + "a", false, false}, {"", "e", "e", false, false}, {"", "a", "\xff", false, false},
		{"a a", "a", "a", false, false},
	} {
		for _, two := range [][2]string{{c.a, c.b}, {c.b, c.a}} {
			if joined, ok := impl.JoinedBy(rules(c.rules), two[0], two[1]); joined != c.joined || ok != c.ok {
				t.Errorf("JoinedBy(%s, %q): %v %v", c.rules, two, joined, ok)
			}
		}
	}
}

// pairsCase is the pairs of written rules: two texts with a / between, one blank between each two pairs.
type pairsCase struct{ rules, pairs string }

// CriticalPairs, written out.
func TestRewritePairs(t *testing.T) {
	for _, c := range []pairsCase{
		{"", ""}, {"a", ""}, {"ab", ""}, {"ab, cd", ""}, {"aab b", ""}, {"abcd a, bd c", ""}, {"a, b, c, d", ""},
		// one rule, by one byte, and by several
		{"aa", "a/a"}, {"aa b", "ba/ab"}, {"aba c", "cba/abc"}, {"abab c", "cab/abc"}, {"aaa b", "baa/aab ba/ab"}, {"aaaaaa", "aaaaa/aaaaa aaaa/aaaa aaa/aaa aa/aa a/a"}, {"abcab d", "dcab/abcd"}, {"abaaba c", "cbaaba/abaabc caba/abac"},
		// two rules, the one ahead of the other, and both ways
		{"abc d, bcd a", "dd/aa"}, {"bcd a, abc d", "dd/aa"}, {"ab a, ba b", "aa/ab bb/ba"}, {"ba b, ab a", "bb/ba aa/ab"}, {"aab c, bba d", "cba/aad dab/bbc"}, {"abab c, babd d", "cab/abc cabd/abad cd/ad"},
		// one within the other: at its begin, in its midst, at its end, several times, over itself
		{"abc d, ab c", "d/cc"}, {"ab c, abc d", "d/cc"}, {"abcd a, bc b", "a/abd"}, {"bc b, abcd a", "a/abd"}, {"abc d, bc b", "d/ab"}, {"bc b, abc d", "d/ab"}, {"aba c, a", "cba/abc c/ba c/ab"}, {"bab c, b a", "cab/bac c/aab c/baa"}, {"cabcab d, cab", "dcab/cabd d/cab d/cab"},
		{"aaaa, aa b", "aaa/aaa aa/aa a/a a/aaab /baa /aba /aab baaa/a ba/ab"},
		// one From, and more
		{"ab a, ab b", "a/b b/a"}, {"ab a, ab a", "a/a a/a"}, {"b a, b", "a/ /a"}, {"b, b, b a", "/ /a / /a a/ a/"}, {"aa b, aa", "ba/ab ba/a b/ a/ab /b a/a"}, {"abcd a, cd, abcd b", "a/ab a/b b/a b/ab"},
		// the order of all
		{"aba b, ab a", "bba/abb bb/aba b/aa"}, {"ab a, aba b", "bb/aba b/aa bba/abb"}, {"ab, bc, ca", "c/a a/b b/c"}, {"ba ab, aa, bb", "aba/b a/a a/bab b/b"}, {mirrors, "a/a b/b ab/baba abab/ba abaab/baaba"},
	} {
		var want [][]string
		for _, pair := range strings.Fields(c.pairs) {
			want = append(want, strings.Split(pair, "/"))
		}
		if got, ok := impl.CriticalPairs(rules(c.rules)); !sameTexts(got, want) || !ok {
			t.Errorf("CriticalPairs(%s): %q %v, not %q", c.rules, got, ok, want)
		}
		checkRules(t, rules(c.rules))
	}
}

// CriticalPairs: as many rules as can be, and as long ones; no text is longer than 11 bytes then.
func TestRewriteManyPairs(t *testing.T) {
	for _, c := range []struct {
		rules          string
		pairs, longest int
	}{
		{"a, a, a, a, a, a, a, a", 56, 0}, {"ab a, ab a, ab a, ab a, ab a, ab a, ab a, ab a", 56, 1},
		{strings.Repeat("aaaaaa,", 8), 8*8*5 + 56, 5}, {strings.Repeat("dddddd dddddc,", 8), 8*8*5 + 56, 11},
		{"aaaaaa, aaaaa, aaaa, aaa, aa, a", 55 + 50, 5},
	} {
		l := rules(c.rules)
		checkRules(t, l)
		got, ok := impl.CriticalPairs(l)
		longest := 0
		for _, pair := range got {
			longest = max(longest, len(pair[0]), len(pair[1]))
		}
		if len(got) != c.pairs || longest != c.longest || !ok {
			t.Errorf("CriticalPairs(%s): %d of at most %d bytes, %v", c.rules, len(got), longest, ok)
		}
	}
}

// mostTimes tells how often the first one of OnceBy is gone on with, at most, on a text of a pair.
func mostTimes(l []impl.Rule) int {
	most := 0
	for _, texts := range pairsByHand(l) {
		for _, s := range texts {
			_, times, ends := goneFor(l, s, firstOf, 1000)
			if !ends {
				times = 1001
			}
			most = max(most, times)
		}
	}
	return most
}

// IsConfluent: rules that are, and rules that are not.
func TestRewriteConfluent(t *testing.T) {
	for _, text := range []string{
		"", "a", "aa", "aa a", "aaaaaa a", "ab", "ab a", "abcd a, bd c", "b a, d c", "b a, b a", "ab, ab", "ba ab", sorting, mirrors, "ba ab, aa, bb", "ba ab, aa a, bb b", "ba ab, aa a, bb", "ab, ba", "ab, cd", "aaa, aa b, ab, ba, bb a", "a, aa, aaa, ba, b", "b a, c a, d a, aa a", "b a, bb a, aa a",
		strings.Repeat("dddddd,", 8),
	} {
		if is, ok := checkRules(t, rules(text), "abcdabcd", "ddccbbaa", "babab"); !is || !ok {
			t.Errorf("IsConfluent(%s): %v %v", text, is, ok)
		}
	}
	for _, text := range []string{
		"ab a, ba b", "ba b, ab a", "aa b", "aba b", "abab c", "aaaaaa b", "ab c, bc d", "b a, b", "b, b a", "ab a, ab b", "abc d, ab c", "abcd a, bc b", "abc d, bc b", "aa, bb, bab a", "d, d a",
		// the first pair alone, one in the midst, and the last one
		"aa b, cc, dd", "cc, aa b, dd", "cc, dd, aa b",
	} {
		if is, ok := checkRules(t, rules(text), "abcdabcd", "ddccbbaa", "babab"); is || !ok {
			t.Errorf("IsConfluent(%s): %v %v", text, is, ok)
		}
	}
}

// IsConfluent: pairs that come to their end in just as many times as there may be, in one more, and in none that is told.
func TestRewriteConfluentTimes(t *testing.T) {
	for _, c := range []struct {
		rules string
		times int
	}{{inTime, 400}, {late, 401}, {endless, 1001}} {
		l := rules(c.rules)
		if got := mostTimes(l); got != c.times {
			t.Fatalf("%s: %d times", c.rules, got)
		}
		if is, ok := checkRules(t, l); is || ok != (c.times <= 400) {
			t.Errorf("IsConfluent(%s): %v %v", c.rules, is, ok)
		}
	}
}

// endsIn tells all ends to which a text comes, whatever is gone on with; of some it is known.
func endsIn(l []impl.Rule, s string, known map[string][]string) []string {
	if ends, ok := known[s]; ok {
		return ends
	}
	var ends []string
	for _, next := range onceByHand(l, s) {
		ends = append(ends, endsIn(l, next, known)...)
	}
	if len(ends) == 0 {
		ends = []string{s}
	}
	slices.Sort(ends)
	known[s] = slices.Compact(ends)
	return known[s]
}

// allTexts tells all texts of the first so many letters, of at most so many bytes.
func allTexts(letters int, most int) []string {
	texts := []string{""}
	for from := 0; most > 0; most-- {
		to := len(texts)
		for _, s := range texts[from:to] {
			for _, c := range "abcd"[:letters] {
				texts = append(texts, s+string(c))
			}
		}
		from = to
	}
	return texts
}

// allRules tells all rules of the first so many letters, of at most so many bytes.
func allRules(letters int, most int) []impl.Rule {
	var l []impl.Rule
	for _, from := range allTexts(letters, most) {
		for _, to := range allTexts(letters, most) {
			if lessByLength(to, from) {
				l = append(l, impl.Rule{From: from, To: to})
			}
		}
	}
	return l
}

// checkEnds looks whether rules are told to be confluent just where each of the texts comes to one end, which NormalOf and LastOf tell then.
func checkEnds(t *testing.T, l []impl.Rule, texts []string) bool {
	t.Helper()
	confluent, told := checkRules(t, l)
	known := map[string][]string{}
	one := true
	for _, s := range texts {
		ends := endsIn(l, s, known)
		one = one && len(ends) == 1
		normal, _, ok := impl.NormalOf(l, s)
		last, too := impl.LastOf(l, s)
		if !ok || !too || !slices.Contains(ends, normal) || !slices.Contains(ends, last) {
			t.Fatalf("%v, %q: %q and %q are not of %q", l, s, normal, last, ends)
		}
	}
	if confluent != one || !told {
		t.Fatalf("IsConfluent(%v): %v %v, but each text comes to one end: %v", l, confluent, told, one)
	}
	return confluent
}

// Promise 15: all lists of up to three rules of two letters and two bytes, up to two of three bytes, and one of four letters and three bytes; on all texts that are as long as two of them put together, and one more.
func TestRewriteAllSmall(t *testing.T) {
	are, not := 0, 0
	count := func(l []impl.Rule, texts []string) {
		if checkEnds(t, l, texts) {
			are++
		} else {
			not++
		}
	}
	texts := allTexts(2, 4)
	for _, x := range allRules(2, 2) {
		for _, y := range allRules(2, 2) {
			for _, z := range allRules(2, 2) {
				count([]impl.Rule{x, y, z}, texts)
			}
		}
	}
	texts = allTexts(2, 5)
	for _, x := range allRules(2, 3) {
		count([]impl.Rule{x}, texts)
		for _, y := range allRules(2, 3) {
			count([]impl.Rule{x, y}, texts)
		}
	}
	texts = allTexts(3, 5)
	for _, x := range allRules(3, 3) {
		count([]impl.Rule{x}, texts)
	}
	if are < 3000 || not < 10000 {
		t.Errorf("so few of: %d confluent, %d not", are, not)
	}
}

// tallyRewrite counts what drawn rules and texts have shown.
type tallyRewrite struct {
	confluent, paired, texts, longer, unlike, joined int
}

// look goes on with texts by rules that are confluent, whatever is picked: all that ends in time comes to one text.
func (c *tallyRewrite) look(t *testing.T, l []impl.Rule, pick func(int) int, texts ...string) {
	t.Helper()
	if confluent, ok := impl.IsConfluent(l); !confluent || !ok {
		return
	}
	c.confluent++
	if len(pairsByHand(l)) > 0 {
		c.paired++
	}
	for _, s := range texts {
		normal, times, told := impl.NormalOf(l, s)
		last, lastTold := impl.LastOf(l, s)
		way := []string{s}
		for i, by := range []func(int) int{firstOf, lastOf, pick, pick, pick} {
			at := s
			for range 400 {
				next, ok := impl.OnceBy(l, at)
				if !ok {
					t.Fatalf("OnceBy(%v, %q)", l, at)
				}
				if len(next) == 0 {
					break
				}
				at = next[by(len(next))]
				way = append(way, at)
			}
			next, _ := impl.OnceBy(l, at)
			ends := len(next) == 0
			if told && ends && at != normal || lastTold && ends && at != last || i == 0 && ends != told || i == 1 && ends != lastTold {
				t.Fatalf("%v, %q: %q %v, not %q %v or %q %v", l, s, at, ends, normal, told, last, lastTold)
			}
		}
		c.texts++
		if times >= 3 {
			c.longer++
		}
		c.join(t, l, way, pick)
	}
}

// join looks at two of the texts that come from one by rules that are confluent.
func (c *tallyRewrite) join(t *testing.T, l []impl.Rule, way []string, pick func(int) int) {
	t.Helper()
	for range 4 {
		a, b := way[pick(len(way))], way[pick(len(way))]
		joined, ok := impl.JoinedBy(l, a, b)
		_, _, endsA := impl.NormalOf(l, a)
		_, _, endsB := impl.NormalOf(l, b)
		if ok != (endsA && endsB) || joined != ok {
			t.Fatalf("JoinedBy(%v, %q, %q): %v %v", l, a, b, joined, ok)
		}
		if joined && a != b {
			c.joined++
		}
	}
}

// Promise 15: drawn rules that are confluent, and such as were completed to be, on drawn texts.
func TestRewriteAnyWay(t *testing.T) {
	pick := someSource()
	var c tallyRewrite
	for range 6000 {
		l := drawnRules(pick)
		if pick(2) == 0 {
			if more, ok := completed(l); ok {
				l = more
			}
		}
		c.look(t, l, pick, drawnText(pick, 4, 12), drawnText(pick, 4, 40), drawnText(pick, 2, 40))
	}
	for _, text := range []string{sorting, mirrors, "ba ab, aa, bb", "aa, bb, cc, ba ab, ca ac, cb bc", "aaa, aa b, ab, ba, bb a", "ab, ba, cd, dc"} {
		for range 40 {
			c.look(t, rules(text), pick, drawnText(pick, 4, 40), drawnText(pick, 2, 40))
		}
	}
	if c.confluent < 1000 || c.paired < 500 || c.texts < 3000 || c.longer < 1000 || c.joined < 3000 {
		t.Errorf("so few of: %+v", c)
	}
}

// Promise 15: two uses of rules on one text that have bytes in common come to a pair within it; two that have none can be done one after the other.
func TestRewritePeaks(t *testing.T) {
	pick := someSource()
	apart, across := 0, 0
	for range 4000 {
		l := drawnRules(pick)
		s := drawnText(pick, 1+pick(4), 16)
		pairs, ok := impl.CriticalPairs(l)
		if !ok {
			t.Fatal(l)
		}
		for i, x := range l {
			for j, y := range l {
				for from := range s {
					to := pick(len(s))
					if from > to || from == to && i == j || !strings.HasPrefix(s[from:], x.From) || !strings.HasPrefix(s[to:], y.From) {
						continue
					}
					byX := s[:from] + x.To + s[from+len(x.From):]
					byY := s[:to] + y.To + s[to+len(y.From):]
					if from+len(x.From) <= to {
						apart++
						both := s[:from] + x.To + s[from+len(x.From):to] + y.To + s[to+len(y.From):]
						afterX, _ := impl.OnceBy(l, byX)
						afterY, _ := impl.OnceBy(l, byY)
						if !slices.Contains(afterX, both) || !slices.Contains(afterY, both) {
							t.Fatalf("%v, %q: %q is not of %q and %q", l, s, both, afterX, afterY)
						}
						continue
					}
					across++
					isHere := func(pair []string) bool {
						end := max(from+len(x.From), to+len(y.From))
						all := []string{s[:from] + pair[0] + s[end:], s[:from] + pair[1] + s[end:]}
						return slices.Equal(all, []string{byX, byY}) || slices.Equal(all, []string{byY, byX})
					}
					if !slices.ContainsFunc(pairs, isHere) {
						t.Fatalf("%v, %q: no pair for rules %d and %d at %d and %d, but %q", l, s, i, j, from, to, pairs)
					}
				}
			}
		}
	}
	if apart < 3000 || across < 10000 {
		t.Errorf("so few of: %d apart, %d across", apart, across)
	}
}

// Chapter 15: drawn rules and texts, by hand.
func TestRewriteMixed(t *testing.T) {
	pick := someSource()
	are, not, paired, untold := 0, 0, 0, 0
	for range 5000 {
		l := drawnRules(pick)
		confluent, told := checkRules(t, l, drawnText(pick, 1+pick(4), 12), drawnText(pick, 4, 40), drawnText(pick, 2, 40), drawnText(pick, 1, 40))
		switch {
		case !told:
			untold++
		case !confluent:
			not++
		case len(pairsByHand(l)) > 0:
			paired++
		default:
			are++
		}
	}
	if are < 500 || not < 500 || paired < 500 {
		t.Errorf("so few of: %d confluent, %d with pairs, %d not, %d not told", are, paired, not, untold)
	}
}

// drawnOther tells a text with one byte more, one less, or another one, which may be any; or a long one.
func drawnOther(pick func(int) int, s string) string {
	at := pick(len(s) + 1)
	c := string("abcd`eA \x00\xff"[pick(10)])
	switch behind := min(at+1, len(s)); pick(5) {
	case 0:
		return s[:at] + s[behind:]
	case 1, 2:
		return s[:at] + c + s[behind:]
	case 3:
		return s + s
	}
	return s[:at] + c + s[at:]
}

// Promises 15 and 19: rules of which one text became another, or of which there are more; and texts of which one byte did.
func TestRewriteAnything(t *testing.T) {
	pick := someSource()
	good, wrong, noText := 0, 0, 0
	for range 8000 {
		l := drawnRules(pick)
		if len(l) == 0 {
			continue
		}
		switch x := &l[pick(len(l))]; pick(5) {
		case 0:
			x.From = drawnOther(pick, x.From)
		case 1:
			x.To = drawnOther(pick, x.To)
		case 2:
			x.From, x.To = x.To, x.From
		case 3:
			l = append(l, l[:pick(len(l)+1)]...)
		}
		s := drawnOther(pick, drawnText(pick, 4, 40))
		switch {
		case !goodRulesByHand(l):
			wrong++
			checkNoRules(t, l)
			checkNoText(t, l, s)
		case !anyWord.MatchString(s):
			noText++
			checkRules(t, l)
			checkNoText(t, l, s)
		default:
			good++
			checkRules(t, l, s)
		}
	}
	if good < 1000 || wrong < 1000 || noText < 1000 {
		t.Errorf("so few of: %d as said, %d wrong rules, %d wrong texts", good, wrong, noText)
	}
}

// Promise 19: nil rules and empty ones are alike.
func TestRewriteOfNothing(t *testing.T) {
	var memory [3]impl.Rule
	for _, l := range [][]impl.Rule{nil, {}, memory[:0], rules("a, b")[:0]} {
		if is, ok := checkRules(t, l, "", "a", "abcd", strings.Repeat("d", 40)); !is || !ok {
			t.Errorf("IsConfluent(%v): %v %v", l, is, ok)
		}
	}
	checkNoRules(t, memory[:])
	for _, l := range [][]impl.Rule{nil, rules("a"), rules(sorting), rules(endless)} {
		if got, times, ok := impl.NormalOf(l, ""); got != "" || times != 0 || !ok {
			t.Errorf("NormalOf(%v, none): %q %d %v", l, got, times, ok)
		}
		checkText(t, l, "")
		if joined, ok := checkJoined(t, l, "", ""); !joined || !ok {
			t.Error(l, joined, ok)
		}
	}
}

// sharedRules are good rules, and others behind them.
func sharedRules() []impl.Rule {
	return append(rules("ba ab, aa, bb, aba b, aa b"), impl.Rule{From: "e"}, impl.Rule{To: "a"}, impl.Rule{From: "a", To: "b"}, impl.Rule{}, impl.Rule{From: "a"}, impl.Rule{From: "b", To: "a"})
}

// Promise 19: no list that is handed in is changed, nor what lies behind it; and that tells nothing.
func TestRewriteListsStay(t *testing.T) {
	memory := sharedRules()
	for from := range memory {
		for to := from; to <= len(memory); to++ {
			l := memory[from:to]
			if !goodRulesByHand(l) {
				checkNoRules(t, l)
				checkNoRules(t, slices.Clone(l))
				continue
			}
			checkRules(t, l, "", "a", "abab", "bbaab", "cbadba")
			checkRules(t, slices.Clip(slices.Clone(l)), "", "a", "abab", "bbaab", "cbadba")
		}
	}
	if !slices.Equal(memory, sharedRules()) {
		t.Error(memory)
	}
}

// checkTextsAreNew spoils each list of texts that is told, up to the end of its memory, and looks at all others, at other answers, and at what stays.
func checkTextsAreNew(t *testing.T, ask func() [][]string, stays func() bool) {
	t.Helper()
	want := copyTexts(ask())
	for at := range want {
		first, second := ask(), ask()
		for _, got := range first {
			if slices.ContainsFunc(got[:cap(got)][len(got):], func(s string) bool { return s != "" }) {
				t.Errorf("behind a list: %q", got[:cap(got)])
			}
		}
		if slices.ContainsFunc(first[:cap(first)][len(first):], func(l []string) bool { return l != nil }) {
			t.Errorf("behind the lists: %q", first[:cap(first)])
		}
		spoilt := first[at][:cap(first[at])]
		for i := range spoilt {
			spoilt[i] = "spoilt"
		}
		for i := range first {
			if i != at && !slices.Equal(first[i], want[i]) {
				t.Errorf("list %d spoilt: %q, not %q", at, first, want)
			}
		}
		clear(first[:cap(first)])
		if third := ask(); !sameTexts(second, want) || !sameTexts(third, want) || !stays() {
			t.Errorf("%q and %q, not %q", second, third, want)
		}
	}
}

// Promise 19: what is told shares no memory with what was handed in, nor do two lists of one answer share any, nor two answers.
func TestRewriteAnswersAreNew(t *testing.T) {
	for _, text := range []string{"", "a", "aa", "aaaaaa", "ab a, ba b", "ba ab, aa, bb", "aaaa, aa b", "b, b, b a", sorting, mirrors, strings.Repeat("aaaaaa,", 8)} {
		l := rules(text)
		before := slices.Clone(l)
		stays := func() bool { return slices.Equal(l, before) }
		checkTextsAreNew(t, func() [][]string { got, _ := impl.CriticalPairs(l); return got }, stays)
		for _, s := range []string{"", "a", "bab", "aaaaaaaa", "dcbadcba", strings.Repeat("ab", 20)} {
			checkTextsAreNew(t, func() [][]string { got, _ := impl.OnceBy(l, s); return [][]string{got} }, stays)
		}
	}
}

// Promises 15 and 19: the same answer on many runs.
func TestRewriteEachTime(t *testing.T) {
	pick := someSource()
	for range 30 {
		l := drawnRules(pick)
		s := drawnText(pick, 4, 40)
		for range 10 {
			checkRules(t, l, s)
		}
	}
}
