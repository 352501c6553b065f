package tests

import (
	"math"
	"slices"
	"strings"
	"testing"
	"unicode/utf8"

	"loop.example/g00373/impl"
)

const moduleFront = "\x00asm\x01\x00\x00\x00"

// filled tells a Body of so many bytes, no two that stand side by side alike.
func filled(many int) string {
	out := make([]byte, many)
	for i := range out {
		out[i] = byte(i*7 + many)
	}
	return string(out)
}

// named tells a custom section with a name of less than 128 bytes.
func named(name string, rest string) impl.Section {
	return impl.Section{Body: string([]byte{byte(len(name))}) + name + rest}
}

// someSections are good ones: of no section up to MaxSections, with Bodies at the edges of one byte of length, and custom ones everywhere.
func someSections() [][]impl.Section {
	return [][]impl.Section{
		nil,
		{},
		{{Id: 1}},
		{{Id: 11, Body: "\x00"}},
		{{Id: 5, Body: filled(1)}},
		{{Id: 5, Body: filled(127)}},
		{{Id: 5, Body: filled(128)}},
		{{Id: 5, Body: filled(199)}},
		{{Id: 5, Body: filled(impl.MaxBody)}},
		{named("", "")},
		{named("", ""), named("", "")},
		{named("same", "1"), named("same", "1")},
		{{Id: 1, Body: "ab"}, {Id: 2, Body: ""}, {Id: 3, Body: "c"}},
		{named("ahead", ""), {Id: 2, Body: "x"}, {Id: 9}},
		{{Id: 2, Body: "x"}, named("between", filled(100)), {Id: 9}},
		{{Id: 2, Body: "x"}, {Id: 9}, named("behind", "\x00\x00")},
		{named("a", ""), {Id: 1}, named("b", ""), named("c", ""), {Id: 10, Body: "\x0b"}, named("d", "")},
		{{Id: 1}, {Id: 2}, {Id: 3}, {Id: 4}, {Id: 5}, {Id: 6}, {Id: 7}, {Id: 8}},
		{{Id: 4}, {Id: 5}, {Id: 6}, {Id: 7}, {Id: 8}, {Id: 9}, {Id: 10}, {Id: 11}},
		fullSections(),
		slices.Repeat([]impl.Section{named("n", filled(impl.MaxBody-2))}, impl.MaxSections),
	}
}

// fullSections are as many as can be, each with as long a Body as can be.
func fullSections() []impl.Section {
	var out []impl.Section
	for i := range impl.MaxSections {
		out = append(out, impl.Section{Id: 2 + i, Body: filled(impl.MaxBody)})
	}
	return out
}

// wrongSections are not good, each for one reason.
func wrongSections() [][]impl.Section {
	nine := append(fullSections(), impl.Section{Id: 11})
	return [][]impl.Section{
		nine,
		slices.Repeat([]impl.Section{named("n", "")}, impl.MaxSections+1),
		{{Id: -1}},
		{{Id: -1, Body: "\x01n"}},
		{{Id: 12}},
		{{Id: 256}},
		{{Id: math.MinInt}},
		{{Id: math.MaxInt}},
		{{Id: 1}, {Id: 12}},
		{{Id: 1, Body: filled(impl.MaxBody + 1)}},
		{{Id: 1}, {Id: 2, Body: filled(1000)}},
		{named("n", filled(impl.MaxBody-1))},
		{{Id: 1}, {Id: 1}},
		{{Id: 2}, {Id: 1}},
		{{Id: 3}, {Id: 4}, {Id: 3}},
		{{Id: 3}, named("n", ""), {Id: 3}},
		{{Id: 3}, named("n", ""), {Id: 2}},
		{{Body: ""}},
		{{Body: "\x01"}},
		{{Body: "\x80"}},
		{{Body: "\x02n"}},
		{{Body: "\x01\xff"}},
		{{Id: 1}, {Id: 2}, {Body: "\x05name"}},
	}
}

// bytesByHand tells a module's bytes; lengths are below 256.
func bytesByHand(l []impl.Section) string {
	out := []byte(moduleFront)
	for _, x := range l {
		out = append(out, byte(x.Id))
		if n := len(x.Body); n < 128 {
			out = append(out, byte(n))
		} else {
			out = append(out, byte(n), 1)
		}
		out = append(out, x.Body...)
	}
	return string(out)
}

func checkRead(t *testing.T, s string, want []impl.Section, wantCode int) {
	t.Helper()
	l, code, ok := impl.ReadModule(s)
	if wantCode != 0 {
		want = nil
	}
	if !slices.Equal(l, want) || code != wantCode || ok != (wantCode == 0) {
		t.Errorf("ReadModule(%x): %v %d %v, not %v %d", s, l, code, ok, want, wantCode)
	}
}

// Promise 2: the constants are as the document has them.
func TestSectionLimits(t *testing.T) {
	if impl.MaxSections != 8 || impl.MaxBody != 200 {
		t.Error(impl.MaxSections, impl.MaxBody)
	}
}

// Promise 2: sections come back from their bytes, and these are as written out.
func TestSectionsComeBack(t *testing.T) {
	for _, l := range someSections() {
		if !impl.GoodSections(l) {
			t.Errorf("GoodSections(%v)", l)
		}
		s, ok := impl.ModuleBytes(l)
		if want := bytesByHand(l); s != want || !ok {
			t.Errorf("ModuleBytes(%v): %x %v, not %x", l, s, ok, want)
		}
		checkRead(t, s, l, 0)
	}
	s, ok := impl.ModuleBytes([]impl.Section{{Id: 3, Body: filled(128)}, named("é", "!")})
	if want := moduleFront + "\x03\x80\x01" + filled(128) + "\x00\x04\x02\xc3\xa9!"; s != want || !ok {
		t.Errorf("%x %v", s, ok)
	}
	if s, ok := impl.ModuleBytes(nil); s != moduleFront || !ok {
		t.Errorf("%x %v", s, ok)
	}
}

// Promise 2: lengths are read with noughts on top, of up to 5 bytes each; so are those of the longest module, far behind its 1000th byte.
func TestSectionLengthsWithNoughts(t *testing.T) {
	for _, l := range someSections() {
		for many := 2; many <= 5; many++ {
			s := moduleFront
			for _, x := range l {
				long, _ := impl.PadU32(len(x.Body), many)
				s += string([]byte{byte(x.Id)}) + long + x.Body
			}
			checkRead(t, s, l, 0)
		}
	}
	checkRead(t, moduleFront+"\x07\x82\x00hi", []impl.Section{{Id: 7, Body: "hi"}}, 0)
	checkRead(t, moduleFront+"\x07\x80\x80\x80\x80\x00", []impl.Section{{Id: 7}}, 0)
}

// Promise 2: what is put is there, all others are as they were, and in order.
func TestSectionPut(t *testing.T) {
	a, b := named("a", "1"), named("b", "2")
	l := []impl.Section{a, {Id: 2, Body: "two"}, b, {Id: 5, Body: "five"}, a}
	for _, c := range []struct {
		id   int
		want []impl.Section
	}{
		{1, []impl.Section{a, {Id: 1, Body: "new"}, l[1], b, l[3], a}},
		{2, []impl.Section{a, {Id: 2, Body: "new"}, b, l[3], a}},
		{3, []impl.Section{a, l[1], b, {Id: 3, Body: "new"}, l[3], a}},
		{4, []impl.Section{a, l[1], b, {Id: 4, Body: "new"}, l[3], a}},
		{5, []impl.Section{a, l[1], b, {Id: 5, Body: "new"}, a}},
		{6, []impl.Section{a, l[1], b, l[3], a, {Id: 6, Body: "new"}}},
		{11, []impl.Section{a, l[1], b, l[3], a, {Id: 11, Body: "new"}}},
	} {
		if got, ok := impl.PutSection(l, c.id, "new"); !slices.Equal(got, c.want) || !ok {
			t.Errorf("PutSection(%d): %v %v, not %v", c.id, got, ok, c.want)
		}
	}
	if got, ok := impl.PutSection(nil, 4, ""); !slices.Equal(got, []impl.Section{{Id: 4}}) || !ok {
		t.Error(got, ok)
	}
}

// without tells all sections but the one with an id.
func without(l []impl.Section, id int) []impl.Section {
	return slices.DeleteFunc(slices.Clone(l), func(x impl.Section) bool { return x.Id == id })
}

// bodyOf looks for a Body by going through all.
func bodyOf(l []impl.Section, id int) (string, bool) {
	for _, x := range l {
		if x.Id == id && id >= 1 && id <= 11 {
			return x.Body, true
		}
	}
	return "", false
}

// Promise 2: wherever a section is put, SectionAt tells it, and what else there was.
func TestSectionPutEverywhere(t *testing.T) {
	for _, l := range someSections() {
		for id := 1; id <= 11; id++ {
			for _, body := range []string{"", "new", filled(impl.MaxBody)} {
				checkPut(t, l, id, body)
			}
		}
	}
}

func checkPut(t *testing.T, l []impl.Section, id int, body string) {
	t.Helper()
	_, had := bodyOf(l, id)
	got, ok := impl.PutSection(l, id, body)
	if !had && len(l) == impl.MaxSections {
		if len(got) != 0 || ok {
			t.Errorf("PutSection(%v, %d): %v %v", l, id, got, ok)
		}
		return
	}
	if !ok || !impl.GoodSections(got) || !slices.Equal(without(got, id), without(l, id)) {
		t.Errorf("PutSection(%v, %d): %v %v", l, id, got, ok)
	}
	if now, ok := impl.SectionAt(got, id); now != body || !ok {
		t.Errorf("%d in %v: %q %v", id, got, now, ok)
	}
}

// Promise 2: SectionAt tells what is there, and false where there is none.
func TestSectionAt(t *testing.T) {
	for _, l := range someSections() {
		for id := -1; id <= 13; id++ {
			want, wantOk := bodyOf(l, id)
			if body, ok := impl.SectionAt(l, id); body != want || ok != wantOk {
				t.Errorf("SectionAt(%v, %d): %q %v", l, id, body, ok)
			}
		}
	}
	l := []impl.Section{named("n", ""), {Id: 11, Body: "last"}}
	if body, ok := impl.SectionAt(l, 11); body != "last" || !ok {
		t.Error(body, ok)
	}
	if body, ok := impl.SectionAt(l, 0); body != "" || ok {
		t.Error(body, ok)
	}
}

// Promise 2: without the custom ones all others are there, in order.
func TestSectionDropCustom(t *testing.T) {
	for _, l := range someSections() {
		if got, ok := impl.DropCustom(l); !slices.Equal(got, without(l, 0)) || !ok {
			t.Errorf("DropCustom(%v): %v %v", l, got, ok)
		}
	}
	l := []impl.Section{named("a", ""), {Id: 1, Body: "x"}, named("b", ""), {Id: 2}, named("c", "")}
	if got, ok := impl.DropCustom(l); !slices.Equal(got, []impl.Section{{Id: 1, Body: "x"}, {Id: 2}}) || !ok {
		t.Error(got, ok)
	}
}

// Runes, and bytes that are none, written out at the edges of each length.
var runeEdges = []struct {
	text string
	good bool
}{
	{"", true},
	{"\x00", true},
	{"name", true},
	{"\x7f", true},
	{"\xc2\x80", true},               // 128
	{"\xdf\xbf", true},               // 2047
	{"\xe0\xa0\x80", true},           // 2048
	{"\xed\x9f\xbf", true},           // 55295
	{"\xee\x80\x80", true},           // 57344
	{"\xef\xbf\xbd", true},           // 65533, which a range tells for bytes that are none
	{"\xef\xbf\xbf", true},           // 65535
	{"\xf0\x90\x80\x80", true},       // 65536
	{"\xf4\x8f\xbf\xbf", true},       // 1114111
	{"a\xc3\xa9\xe2\x82\xacz", true}, // of several lengths
	{"\xf4\x90\x80\x80", false},      // 1114112
	{"\xf5\x80\x80\x80", false},      // above
	{"\xf7\xbf\xbf\xbf", false},      // the last of four bytes
	{"\xf8\x88\x80\x80\x80", false},  // five bytes
	{"\xed\xa0\x80", false},          // 55296
	{"\xed\xaf\xbf", false},          // 56319
	{"\xed\xb0\x80", false},          // 56320
	{"\xed\xbf\xbf", false},          // 57343
	{"\xc0\x80", false},              // 0 in two bytes
	{"\xc1\xbf", false},              // 127 in two bytes
	{"\xe0\x80\x80", false},          // 0 in three bytes
	{"\xe0\x9f\xbf", false},          // 2047 in three bytes
	{"\xf0\x80\x80\x80", false},      // 0 in four bytes
	{"\xf0\x8f\xbf\xbf", false},      // 65535 in four bytes
	{"\x80", false},                  // goes on where none is open
	{"\xbf", false},
	{"a\x80", false},
	{"\xc3\xa9\xa9", false},
	{"\xe2\x82\xac\x80", false},
	{"\xef\xbf\xbd\xbd", false},
	{"\xc3", false}, // cut
	{"\xe2\x82", false},
	{"\xe2", false},
	{"\xf0\x90\x80", false},
	{"\xf0\x90", false},
	{"\xf0", false},
	{"\xef\xbf", false},
	{"\xc3a", false}, // not gone on with
	{"\xe2\x82a", false},
	{"\xf0\x90\x80a", false},
	{"\xc3\xc3\xa9", false},
	{"\xef\xbf\xbd\xef\xbf", false},
	{"\xfe", false}, // no such byte
	{"\xff", false},
	{"\xef\xbf\xbd\xff", false},
	{"\xff\xef\xbf\xbd", false},
	{"good\xffthen not, good", false},
}

// Promise 2: a text is runes, or it is not, and names are such texts.
func TestSectionRunes(t *testing.T) {
	for _, c := range runeEdges {
		if got := impl.IsUtf8(c.text); got != c.good {
			t.Errorf("IsUtf8(%x): %v", c.text, got)
		}
		want := ""
		if c.good {
			want = c.text
		}
		if name, ok := impl.NameOf(named(c.text, "\xff\x80")); name != want || ok != c.good {
			t.Errorf("NameOf %x: %x %v", c.text, name, ok)
		}
		if got := impl.GoodSections([]impl.Section{{Id: 1}, named(c.text, "")}); got != c.good {
			t.Errorf("a section named %x: %v", c.text, got)
		}
	}
}

// inUtf8 tells a number's bytes as those of so many are made, allowed or not.
func inUtf8(n int, many int) string {
	if many == 1 {
		return string([]byte{byte(n)})
	}
	out := make([]byte, many)
	for i := many - 1; i > 0; i-- {
		out[i] = byte(128 + n%64)
		n /= 64
	}
	out[0] = byte([]int{192, 224, 240}[many-2] + n)
	return string(out)
}

// leastUtf8 tells how many bytes a number needs.
func leastUtf8(n int) int {
	for i, end := range []int{128, 2048, 65536} {
		if n < end {
			return i + 1
		}
	}
	return 4
}

// Promise 2: every number that four bytes have room for, in as few bytes and in more.
func TestSectionAllRunes(t *testing.T) {
	for n := 0; n < 1<<21; n++ {
		least := leastUtf8(n)
		good := n <= 1114111 && (n < 55296 || n > 57343)
		if s := inUtf8(n, least); impl.IsUtf8(s) != good {
			t.Fatalf("IsUtf8(%x): %v", s, !good)
		}
		for many := least + 1; many <= 4; many++ {
			if s := inUtf8(n, many); impl.IsUtf8(s) {
				t.Fatalf("IsUtf8(%x) has more bytes than it needs", s)
			}
		}
	}
}

// Promise 2: all texts of three bytes out of those that matter.
func TestSectionShortTexts(t *testing.T) {
	some := []byte{0, 0x41, 0x7f, 0x80, 0x8f, 0x90, 0x9f, 0xa0, 0xbd, 0xbf, 0xc0, 0xc1, 0xc2, 0xdf, 0xe0, 0xe1, 0xed, 0xee, 0xef, 0xf0, 0xf1, 0xf4, 0xf5, 0xff}
	for _, a := range some {
		for _, b := range some {
			for _, c := range some {
				s := string([]byte{a, b, c})
				if got := impl.IsUtf8(s); got != utf8.ValidString(s) {
					t.Errorf("IsUtf8(%x): %v", s, got)
				}
			}
		}
	}
	if long := strings.Repeat("é", 5000); !impl.IsUtf8(long) || impl.IsUtf8(long+"\xff") {
		t.Error("long texts")
	}
}

// Promises 2 and 19: names of no bytes, of all bytes, longer than the Body, with noughts on top; and sections without one.
func TestSectionNames(t *testing.T) {
	most := strings.Repeat("n", impl.MaxBody-2)
	padded := strings.Repeat("n", impl.MaxBody-5)
	long, _ := impl.PadU32(len(padded), 5)
	for _, c := range []struct {
		x    impl.Section
		want string
		ok   bool
	}{
		{impl.Section{Body: "\x00"}, "", true},
		{impl.Section{Body: "\x00rest"}, "", true},
		{impl.Section{Body: "\x80\x00rest"}, "", true},
		{impl.Section{Body: "\x01n"}, "n", true},
		{impl.Section{Body: "\x01nrest"}, "n", true},
		{impl.Section{Body: "\x84\x80\x80\x80\x00namerest"}, "name", true},
		{impl.Section{Body: "\xc6\x01" + most}, most, true},
		{impl.Section{Body: long + padded}, padded, true},
		{impl.Section{Body: "\x02\xc3\xa9\xa9"}, "é", true},
		{impl.Section{Body: ""}, "", false},
		{impl.Section{Body: "\x01"}, "", false},
		{impl.Section{Body: "\x05name"}, "", false},
		{impl.Section{Body: "\x80"}, "", false},
		{impl.Section{Body: "\x80\x80\x80\x80\x80\x00"}, "", false},
		{impl.Section{Body: "\xff\xff\xff\xff\x0fname"}, "", false},
		{impl.Section{Body: "\xff\xff\xff\xff\x1fname"}, "", false},
		{impl.Section{Body: "\x01\xc3\xa9"}, "", false},
		{impl.Section{Body: "\x01n" + filled(impl.MaxBody-2)}, "n", true},
		{impl.Section{Body: "\x01n" + filled(impl.MaxBody-1)}, "", false},
		{impl.Section{Id: 1, Body: "\x01n"}, "", false},
		{impl.Section{Id: 11, Body: "\x01n"}, "", false},
		{impl.Section{Id: 12, Body: "\x01n"}, "", false},
		{impl.Section{Id: -1, Body: "\x01n"}, "", false},
		{impl.Section{Id: math.MinInt, Body: "\x01n"}, "", false},
	} {
		if name, ok := impl.NameOf(c.x); name != c.want || ok != c.ok {
			t.Errorf("NameOf(%v): %q %v", c.x, name, ok)
		}
		if custom := c.x.Id == 0; custom && impl.GoodSections([]impl.Section{c.x}) != c.ok {
			t.Errorf("GoodSections of %v", c.x)
		}
	}
}

// Promises 2 and 19: each code alone.
func TestSectionCodes(t *testing.T) {
	long := filled(impl.MaxBody + 1)
	for _, c := range []struct {
		code  int
		texts []string
	}{
		{1, []string{
			"", "\x00", "\x00asm", "\x00asm\x01\x00\x00", "\x00asm\x01\x00\x00\x01", "\x00asm\x02\x00\x00\x00",
			"\x01asm\x01\x00\x00\x00", "asm\x01\x00\x00\x00\x00", "\x00ASM\x01\x00\x00\x00", " " + moduleFront, "\x00asm\x01\x00\x01\x00",
		}},
		{2, []string{
			"\x01", "\x00", "\x0b", "\x01\x80", "\x01\x80\x80\x80\x80", "\x01\x01", "\x01\x05four", "\x00\x02\x01",
			"\x01\xc8\x01" + filled(impl.MaxBody-1), "\x01\x80\x80\x80\x80\x80\x00", "\x01\xff\xff\xff\xff\x1f", "\x01\x80\x80\x80\x80\x10",
			"\x01\x00\x02", "\x01\x00\x02\x03ab", "\x01\x01a\x02\x80",
		}},
		{3, []string{
			"\x0c\x00", "\xff\x00", "\x80\x00", "\x0c\x01a", "\x01\x00\x0c\x00",
			"\x01\xc9\x01" + long, "\x00\xc9\x01\x01n" + long[2:], "\x01\xc9\x81\x80\x80\x00" + long,
		}},
		{4, []string{
			strings.Repeat("\x00\x01\x00", 9), "\x01\x00\x02\x00\x03\x00\x04\x00\x05\x00\x06\x00\x07\x00\x08\x00\x09\x00",
			"\x02\x00\x01\x00", "\x02\x00\x02\x00", "\x02\x00\x00\x01\x00\x02\x00", "\x01\x00\x03\x00\x02\x00",
			"\x00\x00", "\x00\x01\x01", "\x00\x02\x01\xff", "\x00\x01\x80", "\x01\x00\x00\x00",
		}},
	} {
		for _, s := range c.texts {
			if c.code != 1 {
				s = moduleFront + s
			}
			checkRead(t, s, nil, c.code)
		}
	}
}

// Promises 2 and 19: of two faults the one that is met first from the front counts; 4 in the end.
func TestSectionTwoFaults(t *testing.T) {
	for _, c := range []struct {
		code int
		text string
	}{
		{1, "\x00asm\x01\x00\x00\x01\x0c"},
		{1, "\x00asm\x01\x00\x00\x01\x01"},
		{2, moduleFront + "\x01\x80\x80\x80\x80\x80\x0c\x00"},
		{2, moduleFront + "\x01\xff\xff\xff\xff\x1f\x0c\x00"},
		{3, moduleFront + "\x0c"},
		{3, moduleFront + "\xff\x80"},
		{3, moduleFront + "\x0c\x05abc"},
		{3, moduleFront + "\x0c\x00\x01"},
		{3, moduleFront + "\x0c\x80\x80\x80\x80\x80\x00"},
		{3, moduleFront + "\x01\xc9\x01short"},
		{3, moduleFront + "\x01\xff\xff\xff\xff\x0f"},
		{3, moduleFront + "\x01\xc9\x01" + filled(impl.MaxBody+1) + "\x01"},
		{2, moduleFront + "\x02\x00\x01"},
		{2, moduleFront + "\x00\x00\x01\x02a"},
		{3, moduleFront + "\x02\x00\x01\x00\x0c\x00"},
		{3, moduleFront + "\x00\x00\x01\xc9\x01" + filled(impl.MaxBody+1)},
		{2, moduleFront + strings.Repeat("\x00\x01\x00", 9) + "\x01"},
		{3, moduleFront + strings.Repeat("\x00\x01\x00", 9) + "\x0c\x00"},
		{3, moduleFront + strings.Repeat("\x02\x00", 9) + "\x0c"},
		{4, moduleFront + strings.Repeat("\x02\x00", 9)},
	} {
		checkRead(t, c.text, nil, c.code)
	}
}

// Promise 19: 2000 bytes are read, whatever they tell; 2001 are not.
func TestSectionLongModules(t *testing.T) {
	one := "\x00\xbb\x01\x01n" + filled(185)
	s := moduleFront + strings.Repeat(one, 10)
	s += "\x01" + string([]byte{byte(2000 - len(s) - 2)}) + filled(2000-len(s)-2)
	if len(s) != 2000 {
		t.Fatal(len(s))
	}
	checkRead(t, s, nil, 4)
	checkRead(t, s[:1999], nil, 2)
	checkRead(t, s[:1999]+"\x0c", nil, 4)
	checkRead(t, strings.Repeat("\x00", 2000), nil, 1)
	for _, long := range []string{s + "\x00", strings.Repeat("\x00", 2001), moduleFront + strings.Repeat("\xff", 1993)} {
		if l, code, ok := impl.ReadModule(long); len(l) != 0 || code != 0 || ok {
			t.Error(len(long), l, code, ok)
		}
	}
}

// sectionsByHand reads bytes behind the front, one at a time; it tells a code where they are no sections.
func sectionsByHand(s string) ([]impl.Section, int) {
	var out []impl.Section
	for len(s) > 0 {
		id, long, weight := int(s[0]), 0, 1
		if id >= 12 {
			return nil, 3
		}
		s = s[1:]
		for i, more := 0, true; more; i++ {
			if i == 5 || s == "" {
				return nil, 2
			}
			long += int(s[0]%128) * weight
			weight *= 128
			more = s[0] >= 128
			s = s[1:]
		}
		switch {
		case long > impl.MaxU32:
			return nil, 2
		case long > impl.MaxBody:
			return nil, 3
		case long > len(s):
			return nil, 2
		}
		out = append(out, impl.Section{Id: id, Body: s[:long]})
		s = s[long:]
	}
	if !goodByHand(out) {
		return nil, 4
	}
	return out, 0
}

// goodByHand looks at order apart from names.
func goodByHand(l []impl.Section) bool {
	var ids []int
	for _, x := range l {
		if x.Id != 0 {
			ids = append(ids, x.Id)
			continue
		}
		d, ok := digits(x.Body, 0)
		if !ok || len(d)+worth(d, false) > len(x.Body) || !utf8.ValidString(x.Body[len(d):len(d)+worth(d, false)]) {
			return false
		}
	}
	return len(l) <= impl.MaxSections && slices.IsSorted(ids) && len(slices.Compact(slices.Clone(ids))) == len(ids)
}

// Promises 2 and 19: modules that are cut anywhere, or that have another byte anywhere, read another way too.
func TestSectionSpoiltModules(t *testing.T) {
	modules := []string{
		bytesByHand([]impl.Section{{Id: 1, Body: "ab"}, named("né", "x"), {Id: 3}, {Id: 4, Body: "\x01\x00"}}),
		bytesByHand([]impl.Section{named("\xef\xbf\xbd", ""), {Id: 11, Body: filled(130)}}),
		moduleFront + "\x02\x83\x80\x00abc\x00\x85\x00\x81\x00nxy",
	}
	others := []byte{0, 1, 2, 3, 4, 11, 12, 0x7f, 0x80, 0x81, 0xc3, 0xc8, 0xc9, 0xff}
	for _, s := range modules {
		for at := 8; at <= len(s); at++ {
			want, code := sectionsByHand(s[8:at])
			checkRead(t, s[:at], want, code)
			if at == len(s) {
				break
			}
			for _, b := range others {
				spoilt := s[:at] + string([]byte{b}) + s[at+1:]
				want, code := sectionsByHand(spoilt[8:])
				checkRead(t, spoilt, want, code)
			}
		}
		for at := range 8 {
			checkRead(t, s[:at], nil, 1)
			checkRead(t, s[:at]+string([]byte{s[at] ^ 1})+s[at+1:], nil, 1)
		}
	}
}

// Promise 19: sections that are not good give the zero answer everywhere.
func TestSectionWrongLists(t *testing.T) {
	for _, l := range wrongSections() {
		before := slices.Clone(l)
		if impl.GoodSections(l) {
			t.Errorf("GoodSections(%v)", l)
		}
		if s, ok := impl.ModuleBytes(l); s != "" || ok {
			t.Errorf("ModuleBytes(%v): %x %v", l, s, ok)
		}
		if got, ok := impl.DropCustom(l); len(got) != 0 || ok {
			t.Errorf("DropCustom(%v): %v %v", l, got, ok)
		}
		for id := -1; id <= 12; id++ {
			if body, ok := impl.SectionAt(l, id); body != "" || ok {
				t.Errorf("SectionAt(%v, %d): %q %v", l, id, body, ok)
			}
			if got, ok := impl.PutSection(l, id, "new"); len(got) != 0 || ok {
				t.Errorf("PutSection(%v, %d): %v %v", l, id, got, ok)
			}
		}
		if !slices.Equal(l, before) {
			t.Errorf("%v was %v", l, before)
		}
	}
}

// Promise 19: ids that none can be put at or asked for, Bodies that are too long, and sections that would be too many.
func TestSectionWrongPuts(t *testing.T) {
	lists := [][]impl.Section{nil, {{Id: 1, Body: "x"}}, {named("n", ""), {Id: 11}}}
	for _, l := range lists {
		for _, id := range []int{math.MinInt, -1, 0, 12, 13, 256, math.MaxInt} {
			for _, body := range []string{"", "x", "\x01n"} {
				if got, ok := impl.PutSection(l, id, body); len(got) != 0 || ok {
					t.Errorf("PutSection(%v, %d, %q): %v %v", l, id, body, got, ok)
				}
			}
			if body, ok := impl.SectionAt(l, id); body != "" || ok {
				t.Errorf("SectionAt(%v, %d): %q %v", l, id, body, ok)
			}
		}
		for _, id := range []int{1, 5, 11} {
			for _, many := range []int{impl.MaxBody + 1, 5000} {
				if got, ok := impl.PutSection(l, id, filled(many)); len(got) != 0 || ok {
					t.Errorf("PutSection(%v, %d) of %d bytes: %v %v", l, id, many, got, ok)
				}
			}
		}
	}
	full := fullSections()
	for _, id := range []int{1, 10, 11} {
		if got, ok := impl.PutSection(full, id, ""); len(got) != 0 || ok {
			t.Errorf("a ninth section %d: %v %v", id, got, ok)
		}
	}
	if got, ok := impl.PutSection(full, 9, ""); len(got) != impl.MaxSections || got[7] != (impl.Section{Id: 9}) || !ok {
		t.Error(got, ok)
	}
	if got, ok := impl.PutSection(full[:7], 11, "x"); len(got) != impl.MaxSections || !ok {
		t.Error(got, ok)
	}
}

// Promise 19: no list that is handed in is changed, nor what lies behind it.
func TestSectionListsStay(t *testing.T) {
	memory := []impl.Section{named("n", ""), {Id: 3, Body: "three"}, {Id: 7, Body: "seven"}, {Id: -5, Body: "behind"}, {Id: -6}, {Id: -7}}
	before := slices.Clone(memory)
	for _, l := range [][]impl.Section{memory[:0], memory[:1], memory[:2], memory[:3], memory[:4]} {
		impl.GoodSections(l)
		impl.ModuleBytes(l)
		impl.DropCustom(l)
		for id := -1; id <= 12; id++ {
			impl.SectionAt(l, id)
			impl.PutSection(l, id, "new")
			impl.PutSection(l, id, filled(impl.MaxBody+1))
		}
		if !slices.Equal(memory, before) {
			t.Fatal(memory)
		}
	}
}

// spoil writes over a list, and over what lies behind it in its memory.
func spoil(l []impl.Section) {
	l = l[:cap(l)]
	for i := range l {
		l[i] = impl.Section{Id: 99, Body: "spoilt"}
	}
}

// Promise 19: an answer shares no memory with an argument, nor with another answer.
func TestSectionAnswersAreNew(t *testing.T) {
	memory := []impl.Section{{Id: 3, Body: "three"}, named("n", ""), {Id: 7, Body: "seven"}, {Id: 9}, {Id: 11}}
	before := slices.Clone(memory)
	for many := 0; many <= len(memory); many++ {
		l := memory[:many]
		for id := 1; id <= 11; id++ {
			first, _ := impl.PutSection(l, id, "new")
			second, _ := impl.PutSection(l, id, "new")
			keep := slices.Clone(second)
			spoil(first)
			if !slices.Equal(second, keep) {
				t.Error(second)
			}
		}
		dropped, _ := impl.DropCustom(l)
		spoil(dropped)
		if !slices.Equal(memory, before) {
			t.Fatal(memory)
		}
	}
	s, _ := impl.ModuleBytes(before)
	first, _, _ := impl.ReadModule(s)
	spoil(first)
	checkRead(t, s, before, 0)
}
