package tests

import (
	"math"
	"slices"
	"strings"
	"testing"

	"loop.example/g00373/impl"
)

// Texts with a number's bytes written out by hand, at the edges where one byte more is needed.
var unsignedEdges = []struct {
	n    int
	text string
}{
	{0, "\x00"},
	{1, "\x01"},
	{127, "\x7f"},
	{128, "\x80\x01"},
	{300, "\xac\x02"},
	{16383, "\xff\x7f"},
	{16384, "\x80\x80\x01"},
	{2097151, "\xff\xff\x7f"},
	{2097152, "\x80\x80\x80\x01"},
	{268435455, "\xff\xff\xff\x7f"},
	{268435456, "\x80\x80\x80\x80\x01"},
	{impl.MaxS32, "\xff\xff\xff\xff\x07"},
	{impl.MaxU32, "\xff\xff\xff\xff\x0f"},
}

var signedEdges = []struct {
	n    int
	text string
}{
	{0, "\x00"},
	{1, "\x01"},
	{-1, "\x7f"},
	{63, "\x3f"},
	{64, "\xc0\x00"},
	{-64, "\x40"},
	{-65, "\xbf\x7f"},
	{-128, "\x80\x7f"},
	{8191, "\xff\x3f"},
	{8192, "\x80\xc0\x00"},
	{-8192, "\x80\x40"},
	{-8193, "\xff\xbf\x7f"},
	{1048575, "\xff\xff\x3f"},
	{1048576, "\x80\x80\xc0\x00"},
	{-1048576, "\x80\x80\x40"},
	{-1048577, "\xff\xff\xbf\x7f"},
	{134217727, "\xff\xff\xff\x3f"},
	{134217728, "\x80\x80\x80\xc0\x00"},
	{-134217728, "\x80\x80\x80\x40"},
	{-134217729, "\xff\xff\xff\xbf\x7f"},
	{impl.MaxS32, "\xff\xff\xff\xff\x07"},
	{-impl.MaxS32 - 1, "\x80\x80\x80\x80\x78"},
}

// digits tells the bytes at a place up to the first one below 128, if there are at most 5.
func digits(s string, at int) ([]int, bool) {
	if at < 0 || len(s) > 1000 {
		return nil, false
	}
	var out []int
	for i := at; i < len(s) && len(out) < 5; i++ {
		out = append(out, int(s[i])%128)
		if s[i] < 128 {
			return out, true
		}
	}
	return nil, false
}

// worth tells what digits are worth, by sums alone; with a sign the last one from 64 on counts down.
func worth(digits []int, signed bool) int {
	n, weight := 0, 1
	for i, d := range digits {
		if signed && i == len(digits)-1 && d >= 64 {
			d -= 128
		}
		n += d * weight
		weight *= 128
	}
	return n
}

// expectTake tells what a number at a place is, worked out another way than the program does.
func expectTake(s string, at int, signed bool) (int, int, bool) {
	d, ok := digits(s, at)
	if !ok {
		return 0, 0, false
	}
	n := worth(d, signed)
	low, high := 0, impl.MaxU32
	if signed {
		low, high = -impl.MaxS32-1, impl.MaxS32
	}
	if n < low || n > high {
		return 0, 0, false
	}
	return n, at + len(d), true
}

func checkTakes(t *testing.T, s string, at int) {
	t.Helper()
	wantN, wantEnd, wantOk := expectTake(s, at, false)
	if n, end, ok := impl.TakeU32(s, at); n != wantN || end != wantEnd || ok != wantOk {
		t.Errorf("TakeU32(%x, %d): %d %d %v, not %d %d %v", s, at, n, end, ok, wantN, wantEnd, wantOk)
	}
	wantN, wantEnd, wantOk = expectTake(s, at, true)
	if n, end, ok := impl.TakeS32(s, at); n != wantN || end != wantEnd || ok != wantOk {
		t.Errorf("TakeS32(%x, %d): %d %d %v, not %d %d %v", s, at, n, end, ok, wantN, wantEnd, wantOk)
	}
}

// someNumbers are those around each power of 2 up to 2 to the 33rd, of both signs, and some between.
func someNumbers() []int {
	var out []int
	for bit := 0; bit <= 33; bit++ {
		for off := -2; off <= 2; off++ {
			out = append(out, 1<<bit+off, -(1<<bit)+off)
		}
	}
	for n := -5000000000; n <= 5000000000; n += 1234567 {
		out = append(out, n)
	}
	return append(out, math.MaxInt, math.MinInt, math.MinInt+1)
}

// Promise 1: the constants are as the document has them.
func TestLebLimits(t *testing.T) {
	if impl.MaxU32 != 4294967295 || impl.MaxS32 != 2147483647 {
		t.Error(impl.MaxU32, impl.MaxS32)
	}
}

// Promise 1: at each edge the bytes are as written out, as many as told, and come back with the place behind.
func TestLebUnsignedEdges(t *testing.T) {
	for _, c := range unsignedEdges {
		if s, ok := impl.PutU32(c.n); s != c.text || !ok {
			t.Errorf("PutU32(%d): %x %v", c.n, s, ok)
		}
		if many, ok := impl.LenU32(c.n); many != len(c.text) || !ok {
			t.Errorf("LenU32(%d): %d %v", c.n, many, ok)
		}
		if !impl.IsLeast(c.text) {
			t.Errorf("IsLeast(%x)", c.text)
		}
		if n, end, ok := impl.TakeU32(c.text, 0); n != c.n || end != len(c.text) || !ok {
			t.Errorf("TakeU32(%x): %d %d %v", c.text, n, end, ok)
		}
		if n, end, ok := impl.TakeU32("\xff\x80"+c.text+"\xff", 2); n != c.n || end != 2+len(c.text) || !ok {
			t.Errorf("TakeU32 within, of %x: %d %d %v", c.text, n, end, ok)
		}
	}
}

func TestLebSignedEdges(t *testing.T) {
	for _, c := range signedEdges {
		if s, ok := impl.PutS32(c.n); s != c.text || !ok {
			t.Errorf("PutS32(%d): %x %v", c.n, s, ok)
		}
		if many, ok := impl.LenS32(c.n); many != len(c.text) || !ok {
			t.Errorf("LenS32(%d): %d %v", c.n, many, ok)
		}
		if n, end, ok := impl.TakeS32(c.text, 0); n != c.n || end != len(c.text) || !ok {
			t.Errorf("TakeS32(%x): %d %d %v", c.text, n, end, ok)
		}
		if n, end, ok := impl.TakeS32("\x80\x80"+c.text+"\x00", 2); n != c.n || end != 2+len(c.text) || !ok {
			t.Errorf("TakeS32 within, of %x: %d %d %v", c.text, n, end, ok)
		}
	}
}

// Promises 1 and 19: numbers within the limits come back, those beyond give the zero answer.
func TestLebManyNumbers(t *testing.T) {
	for _, n := range someNumbers() {
		checkPutU32(t, n)
		checkPutS32(t, n)
	}
}

func checkPutU32(t *testing.T, n int) {
	t.Helper()
	s, ok := impl.PutU32(n)
	many, lenOk := impl.LenU32(n)
	if n < 0 || n > impl.MaxU32 {
		if s != "" || ok || many != 0 || lenOk {
			t.Errorf("%d is no number without a sign: %x %v %d %v", n, s, ok, many, lenOk)
		}
		return
	}
	if got, end, took := impl.TakeU32(s, 0); got != n || end != len(s) || !ok || !took {
		t.Errorf("%d comes back as %d from %x up to %d", n, got, s, end)
	}
	if many != len(s) || !lenOk || !impl.IsLeast(s) {
		t.Errorf("LenU32(%d): %d %v, of %x", n, many, lenOk, s)
	}
	if len(s) > 1 && n < 1<<(7*(len(s)-1)) {
		t.Errorf("PutU32(%d): fewer bytes than %x do", n, s)
	}
}

func checkPutS32(t *testing.T, n int) {
	t.Helper()
	s, ok := impl.PutS32(n)
	many, lenOk := impl.LenS32(n)
	if n < -impl.MaxS32-1 || n > impl.MaxS32 {
		if s != "" || ok || many != 0 || lenOk {
			t.Errorf("%d is no number with a sign: %x %v %d %v", n, s, ok, many, lenOk)
		}
		return
	}
	if got, end, took := impl.TakeS32(s, 0); got != n || end != len(s) || !ok || !took {
		t.Errorf("%d comes back as %d from %x up to %d", n, got, s, end)
	}
	if many != len(s) || !lenOk {
		t.Errorf("LenS32(%d): %d %v, of %x", n, many, lenOk, s)
	}
	half := 1 << (7 * (len(s) - 1)) / 2
	if len(s) > 1 && n >= -half && n < half {
		t.Errorf("PutS32(%d): fewer bytes than %x do", n, s)
	}
}

// Promise 1: all texts of up to two bytes, read and held against the least ones.
func TestLebAllShortTexts(t *testing.T) {
	texts := []string{""}
	for a := 0; a < 256; a++ {
		texts = append(texts, string([]byte{byte(a)}))
		for b := 0; b < 256; b++ {
			texts = append(texts, string([]byte{byte(a), byte(b)}))
		}
	}
	for _, s := range texts {
		checkTakes(t, s, 0)
		checkTakes(t, s, 1)
		n, end, ok := expectTake(s, 0, false)
		want := ok && end == len(s) && (end == 1 || n >= 128)
		if got := impl.IsLeast(s); got != want {
			t.Errorf("IsLeast(%x): %v", s, got)
		}
	}
}

// Promises 1 and 19: every last byte behind 0 to 5 bytes of either kind; the fifth one tells whether bits above the 32nd are allowed.
func TestLebLastBytes(t *testing.T) {
	for many := 0; many <= 5; many++ {
		for _, lead := range []string{"\x80", "\xff", "\xb5"} {
			for last := 0; last < 256; last++ {
				s := strings.Repeat(lead, many) + string([]byte{byte(last)})
				checkTakes(t, s, 0)
				checkTakes(t, "\x85"+s+"\x01", 1)
			}
		}
	}
}

// Promise 1: noughts on top up to 5 bytes; what is put so comes back, and is the least text only where nothing is on top.
func TestLebPad(t *testing.T) {
	for _, c := range unsignedEdges {
		for many := -1; many <= 7; many++ {
			s, ok := impl.PadU32(c.n, many)
			if many < len(c.text) || many > 5 {
				if s != "" || ok {
					t.Errorf("PadU32(%d, %d): %x %v", c.n, many, s, ok)
				}
				continue
			}
			if len(s) != many || !ok || impl.IsLeast(s) != (many == len(c.text)) {
				t.Errorf("PadU32(%d, %d): %x %v", c.n, many, s, ok)
			}
			if n, end, ok := impl.TakeU32(s, 0); n != c.n || end != many || !ok {
				t.Errorf("PadU32(%d, %d) comes back as %d up to %d", c.n, many, n, end)
			}
		}
	}
	if s, ok := impl.PadU32(0, 5); s != "\x80\x80\x80\x80\x00" || !ok {
		t.Errorf("%x", s)
	}
	if s, ok := impl.PadU32(200, 4); s != "\xc8\x81\x80\x00" || !ok {
		t.Errorf("%x", s)
	}
}

// Promise 1: with a sign, too, bytes on top that are as it are read.
func TestLebSignOnTop(t *testing.T) {
	for _, c := range []struct {
		text string
		n    int
	}{
		{"\xff\x7f", -1},
		{"\xff\xff\xff\xff\x7f", -1},
		{"\x80\x80\x80\x80\x00", 0},
		{"\xbf\x00", 63},
		{"\xc0\xff\x7f", -64},
		{"\xbf\xff\xff\xff\x7f", -65},
	} {
		if n, end, ok := impl.TakeS32(c.text, 0); n != c.n || end != len(c.text) || !ok {
			t.Errorf("TakeS32(%x): %d %d %v", c.text, n, end, ok)
		}
	}
}

// Promise 19: fifth bytes with bits above the 32nd that are not allowed, and a sixth byte.
func TestLebTooMuch(t *testing.T) {
	for _, s := range []string{
		"\xff\xff\xff\xff\x1f",
		"\x80\x80\x80\x80\x10",
		"\x80\x80\x80\x80\x20",
		"\x80\x80\x80\x80\x40",
		"\xff\xff\xff\xff\x7f",
		"\x80\x80\x80\x80\x80\x00",
		"\x81\x80\x80\x80\x80\x00",
	} {
		if n, end, ok := impl.TakeU32(s, 0); n != 0 || end != 0 || ok {
			t.Errorf("TakeU32(%x): %d %d %v", s, n, end, ok)
		}
		if impl.IsLeast(s) {
			t.Errorf("IsLeast(%x)", s)
		}
	}
	for _, s := range []string{
		"\x80\x80\x80\x80\x08",
		"\xff\xff\xff\xff\x0f",
		"\x80\x80\x80\x80\x10",
		"\x80\x80\x80\x80\x38",
		"\x80\x80\x80\x80\x40",
		"\x80\x80\x80\x80\x70",
		"\xff\xff\xff\xff\x77",
		"\x80\x80\x80\x80\x68",
		"\x80\x80\x80\x80\x80\x00",
		"\xff\xff\xff\xff\xff\x7f",
	} {
		if n, end, ok := impl.TakeS32(s, 0); n != 0 || end != 0 || ok {
			t.Errorf("TakeS32(%x): %d %d %v", s, n, end, ok)
		}
	}
}

// Promise 19: places that are none, and bytes that end too early.
func TestLebWrongPlaces(t *testing.T) {
	for _, s := range []string{"", "\x00", "\x05\x80", "\x80\x80\x80\x80", "\x01\x02\x03", "\x02\x01"} {
		for _, at := range []int{math.MinInt, math.MinInt + 1, -2, -1, len(s), len(s) + 1, len(s) + 5, math.MaxInt - 1, math.MaxInt} {
			checkTakesNothing(t, s, at)
		}
	}
	checkTakesNothing(t, "\x80", 0)
	checkTakesNothing(t, "\x05\x80", 1)
	checkTakesNothing(t, "\xff\xff\xff\xff", 0)
	checkTakesNothing(t, "\xff\xff\xff\xff", 3)
}

func checkTakesNothing(t *testing.T, s string, at int) {
	t.Helper()
	if n, end, ok := impl.TakeU32(s, at); n != 0 || end != 0 || ok {
		t.Errorf("TakeU32(%x, %d): %d %d %v", s, at, n, end, ok)
	}
	if n, end, ok := impl.TakeS32(s, at); n != 0 || end != 0 || ok {
		t.Errorf("TakeS32(%x, %d): %d %d %v", s, at, n, end, ok)
	}
	if l, end, ok := impl.TakeVec(s, at); len(l) != 0 || end != 0 || ok {
		t.Errorf("TakeVec(%x, %d): %v %d %v", s, at, l, end, ok)
	}
}

// Promise 19: a text of 1000 bytes is read, one of 1001 is not, wherever the number stands.
func TestLebLongTexts(t *testing.T) {
	most := strings.Repeat("\x01", 1000)
	for _, at := range []int{0, 500, 999} {
		if n, end, ok := impl.TakeU32(most, at); n != 1 || end != at+1 || !ok {
			t.Error(at, n, end, ok)
		}
		if n, end, ok := impl.TakeS32(most, at); n != 1 || end != at+1 || !ok {
			t.Error(at, n, end, ok)
		}
		checkTakesNothing(t, most+"\x01", at)
	}
	if l, end, ok := impl.TakeVec(most, 998); !slices.Equal(l, []int{1}) || end != 1000 || !ok {
		t.Error(l, end, ok)
	}
	checkTakesNothing(t, most, 1000)
	checkTakesNothing(t, most+"\x01", 1000)
	if impl.IsLeast(most) || impl.IsLeast(most+"\x01") || impl.IsLeast(strings.Repeat("\x80", 1000)) {
		t.Error("least")
	}
}

// Promise 19: what is no least text.
func TestLebNotLeast(t *testing.T) {
	for _, s := range []string{"", "\x80", "\x80\x00", "\xff\x00", "\x81\x80\x00", "\x00\x00", "\x7f\x01", "\x80\x01\x00", "\xff\xff\xff\xff"} {
		if impl.IsLeast(s) {
			t.Errorf("IsLeast(%x)", s)
		}
	}
}

// upTo tells many numbers with from 1 to 5 bytes each, in turn.
func upTo(many int) []int {
	out := make([]int, many)
	for i := range out {
		out[i] = impl.MaxU32 >> (7 * (i % 5))
	}
	return out
}

// Promise 1: lists come back, with the place behind.
func TestLebLists(t *testing.T) {
	lists := [][]int{nil, {}, {0}, {127}, {128}, {impl.MaxU32}, {1, 200}, upTo(49), upTo(50), make([]int, 50)}
	for _, l := range lists {
		s, ok := impl.PutVec(l)
		want := putByHand(l)
		if s != want || !ok {
			t.Errorf("PutVec(%v): %x %v, not %x", l, s, ok, want)
		}
		if got, end, ok := impl.TakeVec(s, 0); !slices.Equal(got, l) || end != len(s) || !ok {
			t.Errorf("%v comes back as %v up to %d", l, got, end)
		}
		if got, end, ok := impl.TakeVec("\xff"+s+"\x09", 1); !slices.Equal(got, l) || end != 1+len(s) || !ok {
			t.Errorf("%v comes back as %v up to %d from within", l, got, end)
		}
	}
	if s, ok := impl.PutVec(nil); s != "\x00" || !ok {
		t.Errorf("%x", s)
	}
	if s, ok := impl.PutVec([]int{1, 200}); s != "\x02\x01\xc8\x01" || !ok {
		t.Errorf("%x", s)
	}
}

// putByHand divides instead of shifting; a list's length is below 128.
func putByHand(l []int) string {
	out := []byte{byte(len(l))}
	for _, n := range l {
		for n >= 128 {
			out = append(out, byte(n%128+128))
			n /= 128
		}
		out = append(out, byte(n))
	}
	return string(out)
}

// Promise 1: lists are read with noughts on top of their length and of their numbers.
func TestLebListsWithNoughts(t *testing.T) {
	full, _ := impl.PadU32(50, 5)
	for range 50 {
		full += "\x83\x80\x80\x80\x00"
	}
	three := slices.Repeat([]int{3}, 50)
	if l, end, ok := impl.TakeVec(full, 0); !slices.Equal(l, three) || end != 255 || !ok {
		t.Error(l, end, ok)
	}
	if l, end, ok := impl.TakeVec("\x82\x00\x05\x85\x80\x00\x06", 0); !slices.Equal(l, []int{5, 5}) || end != 6 || !ok {
		t.Error(l, end, ok)
	}
	if l, end, ok := impl.TakeVec("\x80\x80\x80\x80\x00", 0); len(l) != 0 || end != 5 || !ok {
		t.Error(l, end, ok)
	}
}

// Promise 19: lists that are none.
func TestLebWrongLists(t *testing.T) {
	for _, l := range [][]int{make([]int, 51), upTo(51), make([]int, 200), {-1}, {1, 2, -1}, {impl.MaxU32 + 1}, {0, math.MaxInt, 0}, {math.MinInt}} {
		if s, ok := impl.PutVec(l); s != "" || ok {
			t.Errorf("PutVec(%v): %x %v", l, s, ok)
		}
	}
	for _, s := range []string{
		"",
		"\x01",
		"\x02\x05",
		"\x02\x05\x80",
		"\x33" + strings.Repeat("\x00", 51),
		"\xff\xff\xff\xff\x0f" + strings.Repeat("\x00", 100),
		"\xff\xff\xff\xff\x1f\x00",
		"\x80\x80\x80\x80\x80\x00",
		"\x01\xff\xff\xff\xff\x1f",
		"\x01\x80\x80\x80\x80\x80\x00",
		"\x02\x00\xff\xff\xff\xff\x10",
	} {
		if l, end, ok := impl.TakeVec(s, 0); len(l) != 0 || end != 0 || ok {
			t.Errorf("TakeVec(%x): %v %d %v", s, l, end, ok)
		}
	}
}

// Promise 19: no list that is handed in is changed, nor what lies behind it, whether it is good or not.
func TestLebListsStay(t *testing.T) {
	memory := []int{7, impl.MaxU32, 128, -9, 5, -9, -9}
	before := slices.Clone(memory)
	if s, ok := impl.PutVec(memory[:3]); s != "\x03\x07\xff\xff\xff\xff\x0f\x80\x01" || !ok {
		t.Errorf("%x", s)
	}
	impl.PutVec(memory[:0])
	impl.PutVec(memory[:5])
	long := make([]int, 51, 80)
	impl.PutVec(long)
	if !slices.Equal(memory, before) || !slices.Equal(long[:80], make([]int, 80)) {
		t.Error(memory)
	}
}

// Promise 19: an answer is new memory.
func TestLebAnswersAreNew(t *testing.T) {
	s, _ := impl.PutVec([]int{1, 2, 3})
	first, _, _ := impl.TakeVec(s, 0)
	for i := range first {
		first[i] = 99
	}
	if second, _, ok := impl.TakeVec(s, 0); !slices.Equal(second, []int{1, 2, 3}) || !ok {
		t.Error(second)
	}
}

// Promise 19: wrong numbers to PadU32, whatever many is.
func TestLebPadWrong(t *testing.T) {
	for _, n := range []int{-1, impl.MaxU32 + 1, math.MinInt, math.MaxInt} {
		for _, many := range []int{math.MinInt, 0, 1, 5, 10, math.MaxInt} {
			if s, ok := impl.PadU32(n, many); s != "" || ok {
				t.Errorf("PadU32(%d, %d): %x %v", n, many, s, ok)
			}
		}
	}
	for _, many := range []int{math.MinInt, -1, 0, 6, math.MaxInt} {
		if s, ok := impl.PadU32(3, many); s != "" || ok {
			t.Errorf("PadU32(3, %d): %x %v", many, s, ok)
		}
	}
}
