package impl

import (
	"iter"
	"strings"
)

const MaxU32 = 4294967295
const MaxS32 = 2147483647

const (
	bitsEach  = 7    // how many bits of a number a byte has
	sevenBits = 127  // these bits
	moreBit   = 128  // set in all bytes but the last
	maxEach   = 5    // bytes that a number has at most: seven bits each, they hold 32
	maxVec    = 50   // numbers in a list
	maxTaken  = 1000 // bytes of a text that numbers are taken from
)

func fitsU32(n int) bool { return n >= 0 && n <= MaxU32 }

func fitsS32(n int) bool { return n >= -MaxS32-1 && n <= MaxS32 }

// sevens yields so many bytes of n. The shift keeps the sign, so one way does
// for numbers with a sign and for those without.
func sevens(n int, many int) iter.Seq[byte] {
	return func(yield func(byte) bool) {
		rest := n
		for left := many; left > 0; left-- {
			b := byte(rest & sevenBits)
			if left > 1 {
				b |= moreBit
			}
			if !yield(b) {
				return
			}
			rest >>= bitsEach
		}
	}
}

func bytesOf(n int, many int) string {
	var text strings.Builder
	for b := range sevens(n, many) {
		text.WriteByte(b)
	}
	return text.String()
}

// takeSevens tells the bits of the bytes that stand at a place, not yet looked
// at for a sign or a limit, and the place behind.
func takeSevens(s string, at int) (int, int, bool) {
	if len(s) > maxTaken || at < 0 {
		return 0, 0, false
	}
	bits, end := 0, at
next:
	if end >= len(s) || end-at == maxEach {
		return 0, 0, false
	}
	b := int(s[end])
	bits |= (b & sevenBits) << (bitsEach * (end - at))
	end++
	if b >= moreBit {
		goto next
	}
	return bits, end, true
}

// PutU32 tells n without a sign in as few bytes as can be.
func PutU32(n int) (string, bool) {
	many, ok := LenU32(n)
	if !ok {
		return "", false
	}
	return bytesOf(n, many), true
}

// TakeU32 tells the number without a sign at a place, and the place behind.
func TakeU32(s string, at int) (int, int, bool) {
	n, end, ok := takeSevens(s, at)
	if !ok || !fitsU32(n) {
		return 0, 0, false
	}
	return n, end, true
}

// PutS32 tells n with its sign in as few bytes as can be.
func PutS32(n int) (string, bool) {
	many, ok := LenS32(n)
	if !ok {
		return "", false
	}
	return bytesOf(n, many), true
}

// TakeS32 tells the number with a sign at a place, and the place behind.
func TakeS32(s string, at int) (int, int, bool) {
	n, end, ok := takeSevens(s, at)
	if !ok {
		return 0, 0, false
	}
	width := bitsEach * (end - at)
	if n>>(width-1) == 1 {
		n -= 1 << width
	}
	// Bits above the 32nd that are not as the sign make the number too great
	// or too small, so its limits are all that need be looked at.
	if !fitsS32(n) {
		return 0, 0, false
	}
	return n, end, true
}

// LenU32 tells how many bytes PutU32 has.
func LenU32(n int) (int, bool) {
	if !fitsU32(n) {
		return 0, false
	}
	many := 1
	for rest := n >> bitsEach; rest != 0; rest >>= bitsEach {
		many++
	}
	return many, true
}

// LenS32 tells how many bytes PutS32 has.
func LenS32(n int) (int, bool) {
	if !fitsS32(n) {
		return 0, false
	}
	many := 1
	// The last byte has but six bits beside the sign; what is above them must
	// be the sign alone.
	for rest := n >> (bitsEach - 1); rest != 0 && rest != -1; rest >>= bitsEach {
		many++
	}
	return many, true
}

// PadU32 tells n without a sign in so many bytes.
func PadU32(n int, many int) (string, bool) {
	least, ok := LenU32(n)
	if !ok || many < least || many > maxEach {
		return "", false
	}
	return bytesOf(n, many), true
}

// IsLeast tells whether a text is PutU32 of some number.
func IsLeast(s string) bool {
	n, end, ok := TakeU32(s, 0)
	if !ok || end != len(s) {
		return false
	}
	least, _ := LenU32(n)
	return least == end
}

// PutVec tells how many numbers there are, and each of them.
func PutVec(l []int) (string, bool) {
	if len(l) > maxVec {
		return "", false
	}
	text, _ := PutU32(len(l))
	for _, n := range l {
		part, ok := PutU32(n)
		if !ok {
			return "", false
		}
		text += part
	}
	return text, true
}

// TakeVec tells the list at a place, and the place behind.
func TakeVec(s string, at int) ([]int, int, bool) {
	many, end, ok := TakeU32(s, at)
	if !ok || many > maxVec {
		return nil, 0, false
	}
	list := make([]int, many)
	for i := range list {
		list[i], end, ok = TakeU32(s, end)
		if !ok {
			return nil, 0, false
		}
	}
	return list, end, true
}
