package ots_test

import (
	"testing"

	"consistory/api"
	"consistory/ots"
	"consistory/samples"
	"consistory/sha"
)

// P4.1: digits that are known, the chapter's example among them.
func TestDigitsKnown(t *testing.T) {
	counted := api.Hash{0x01, 0x23, 0x45, 0x67, 0x89, 0xab, 0xcd, 0xef, 0xfe, 0xdc, 0xba, 0x98, 0x76, 0x54, 0x32, 0x10}
	for _, c := range []struct {
		name string
		h    api.Hash
		want [35]int
	}{
		{"noughts", api.Hash{}, [35]int{32: 1, 33: 14, 34: 0}},
		{"one 1 in a lower half", api.Hash{0: 0x01}, [35]int{1: 1, 32: 1, 33: 13, 34: 15}},
		{"one 1 in a higher half", api.Hash{0: 0x10}, [35]int{0: 1, 32: 1, 33: 13, 34: 15}},
		{"3 and 10 in the first byte", api.Hash{0: 0x3a}, [35]int{0: 3, 1: 10, 32: 1, 33: 13, 34: 3}},
		{"3 and 10 in the last byte of those", api.Hash{15: 0x3a}, [35]int{30: 3, 31: 10, 32: 1, 33: 13, 34: 3}},
		{"all of them", counted, [35]int{
			0, 1, 2, 3, 4, 5, 6, 7, 8, 9, 10, 11, 12, 13, 14, 15, 15, 14, 13, 12, 11, 10, 9, 8, 7, 6, 5, 4, 3, 2, 1, 0, 0, 15, 0,
		}},
		{"a text's", sha.Sum([]byte("text")), [35]int{
			9, 8, 2, 13, 9, 14, 3, 14, 11, 9, 9, 6, 15, 5, 5, 9, 14, 6, 3, 3, 15, 4, 13, 1, 9, 4, 13, 14, 15, 3, 7, 6, 0, 13, 1,
		}},
		{"nothing's", sha.Sum(nil), [35]int{
			14, 3, 11, 0, 12, 4, 4, 2, 9, 8, 15, 12, 1, 12, 1, 4, 9, 10, 15, 11, 15, 4, 12, 8, 9, 9, 6, 15, 11, 9, 2, 4, 0, 13, 11,
		}},
	} {
		if got := ots.Digits(c.h); got != c.want {
			t.Errorf("of %s: %v; want %v", c.name, got, c.want)
		}
	}
}

// P4.1: where all is told there is nothing left.
func TestDigitsOfAllOnes(t *testing.T) {
	var h api.Hash
	var want [35]int
	for i := range h {
		h[i] = 0xff
	}
	for i := range 32 {
		want[i] = 15
	}
	if got := ots.Digits(h); got != want {
		t.Errorf("%v; want %v", got, want)
	}
}

// P4.1: of any digest, its digits are the signs of its text.
func TestDigitsAny(t *testing.T) {
	r := chance()
	for range 2000 {
		h := samples.Hash(r)
		if got, want := ots.Digits(h), digitsOf(h); got != want {
			t.Errorf("of %x: %v; want %v", h, got, want)
		}
	}
}

// P4.1: what is left is told by three digits of 16, whatever it is from 0 to 480.
func TestDigitsLeft(t *testing.T) {
	for left := range 481 {
		told := 480 - left
		var h api.Hash
		for i := range 32 {
			n := min(told, 15)
			told -= n
			h[i/2] |= byte(n << (4 * (1 - i%2)))
		}
		d := ots.Digits(h)
		if d[32] != left/256 || d[33] != left/16%16 || d[34] != left%16 {
			t.Errorf("%d is left: %v", left, d[32:])
		}
	}
}

// P4.1: only the first 16 bytes tell, each of their bits in its digit.
func TestDigitsBits(t *testing.T) {
	h := samples.Hash(chance())
	before := ots.Digits(h)
	for bit := range 8 * len(h) {
		other := h
		other[bit/8] ^= 0x80 >> (bit % 8)
		d := ots.Digits(other)
		if bit >= 128 {
			if d != before {
				t.Errorf("bit %d is told", bit)
			}
			continue
		}
		for i := range 32 {
			if (d[i] != before[i]) != (i == bit/4) {
				t.Errorf("bit %d: digit %d was %d, is %d", bit, i, before[i], d[i])
			}
		}
		if d[bit/4]^before[bit/4] != 8>>(bit%4) {
			t.Errorf("bit %d: digit %d was %d, is %d", bit, bit/4, before[bit/4], d[bit/4])
		}
	}
}

// P4.3: of two digests whose first 16 bytes aren't the same each has a digit that is below the other's.
func TestDigitsBelow(t *testing.T) {
	r := chance()
	check := func(a, b api.Hash) {
		t.Helper()
		x, y := ots.Digits(a), ots.Digits(b)
		if !below(x, y) || !below(y, x) {
			t.Errorf("of %x and %x: %v and %v", a, b, x, y)
		}
	}
	all := samples.Hashes(r)[1]
	check(api.Hash{}, all)
	for range 300 {
		h := samples.Hash(r)
		check(h, samples.Hash(r))
		check(h, api.Hash{})
		check(h, all)
		// Only in what is left this one is below h: else each of its digits is as great or greater.
		more := h
		for i := range 16 {
			more[i] |= byte(r.Uint64())
		}
		if more != h {
			check(h, more)
		}
		for bit := range 128 {
			other := h
			other[bit/8] ^= 1 << (bit % 8)
			check(h, other)
		}
	}
}

// below tells whether a digit of x is below y's.
func below(x, y [35]int) bool {
	for i := range x {
		if x[i] < y[i] {
			return true
		}
	}
	return false
}
