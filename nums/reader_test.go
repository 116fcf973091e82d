package nums_test

import (
	"bytes"
	"math"
	"slices"
	"testing"

	"consistory/api"
	"consistory/nums"
)

// P1.1: a new reader stands at the first byte.
func TestNew(t *testing.T) {
	for n := range 20 {
		b := bytes.Repeat([]byte{1}, n)
		r := nums.New(b)
		at(t, "new", r, 0, n)
		for i := range n {
			if x, e := r.Fixed(1); x != 1 || e != api.OK {
				t.Errorf("byte %d of %d: %d, %v", i, n, x, e)
			}
			at(t, "read", r, i+1, n)
		}
	}
	if nums.New(nil) == nil || nums.New([]byte{}) == nil {
		t.Error("a reader of nothing is nil")
	}
	if x, e := nums.New([]byte{7, 8}).Fixed(1); x != 7 || e != api.OK {
		t.Error("it begins not with the first byte:", x, e)
	}
}

// P1.1: Done answers whether all was read, and reads nothing.
func TestDone(t *testing.T) {
	if e := nums.New(nil).Done(); e != api.OK {
		t.Error("of nothing:", e)
	}
	r := nums.New([]byte{0, 0})
	for left := 2; left > 0; left-- {
		if e := r.Done(); e != api.ErrForm {
			t.Error("with", left, "left:", e)
		}
		at(t, "Done", r, 2-left, 2)
		r.Fixed(1)
	}
	for range 2 {
		if e := r.Done(); e != api.OK {
			t.Error("at the end:", e)
		}
	}
	at(t, "Done", r, 2, 2)
}

// P1.2: a fixed number is told by its bytes, the highest first.
func TestFixed(t *testing.T) {
	b := []byte{0x01, 0x82, 0x03, 0xf4, 0x05, 0x86, 0x07, 0xf8, 0x09}
	for n, want := range map[int]uint64{1: 0x01, 2: 0x0182, 4: 0x018203f4, 8: 0x018203f4058607f8} {
		r := nums.New(b)
		if x, e := r.Fixed(n); x != want || e != api.OK {
			t.Errorf("of %d: %x, %v", n, x, e)
		}
		at(t, "Fixed", r, n, len(b))
		r = nums.New(b[:n])
		if x, e := r.Fixed(n); x != want || e != api.OK || r.Done() != api.OK {
			t.Errorf("of %d, to the end: %x, %v", n, x, e)
		}
		r = nums.New(bytes.Repeat([]byte{0xff}, n))
		if x, e := r.Fixed(n); x != math.MaxUint64>>(64-8*n) || e != api.OK {
			t.Errorf("greatest of %d: %x, %v", n, x, e)
		}
	}
	r := nums.New(b)
	for i, c := range []struct {
		n  int
		x  uint64
		at int
	}{{1, 0x01, 1}, {4, 0x8203f405, 5}, {2, 0x8607, 7}, {2, 0xf809, 9}} {
		if x, e := r.Fixed(c.n); x != c.x || e != api.OK {
			t.Errorf("number %d: %x, %v", i, x, e)
		}
		at(t, "Fixed", r, c.at, len(b))
	}
}

// P1.2: a size that may not be is told ahead of bytes that are missing.
func TestFixedWrong(t *testing.T) {
	for _, n := range []int{0, 3, 5, 6, 7, 9, 10, 16, 32, 64, -1, -2, -4, -8, 256 + 1, 1<<32 + 1, math.MaxInt, math.MinInt} {
		for size := range 12 {
			r := nums.New(make([]byte, size))
			if x, e := r.Fixed(n); x != 0 || e != api.ErrArg {
				t.Errorf("Fixed(%d) of %d bytes: %d, %v", n, size, x, e)
			}
			at(t, "Fixed", r, 0, size)
		}
	}
	for _, n := range []int{1, 2, 4, 8} {
		for left := range n {
			b := bytes.Repeat([]byte{0xff}, 3+left)
			r := nums.New(b)
			r.Fixed(2)
			r.Fixed(1)
			if x, e := r.Fixed(n); x != 0 || e != api.ErrShort {
				t.Errorf("Fixed(%d) with %d left: %d, %v", n, left, x, e)
			}
			at(t, "Fixed", r, 3, len(b))
		}
	}
}

// P1.2: a packed number, alone and with bytes behind it and ahead of it.
func TestPacked(t *testing.T) {
	for _, c := range packedCases() {
		r := nums.New(c.b)
		if x, e := r.Packed(); x != c.x || e != api.OK || r.Done() != api.OK {
			t.Errorf("%x: %d, %v", c.b, x, e)
		}
		b := slices.Concat([]byte{0xff}, c.b, []byte{0x00, 0x85})
		r = nums.New(b)
		r.Fixed(1)
		if x, e := r.Packed(); x != c.x || e != api.OK {
			t.Errorf("%x within: %d, %v", c.b, x, e)
		}
		at(t, "Packed", r, 1+len(c.b), len(b))
	}
}

// P1.2: what isn't a packed number is refused, and nothing of it is read.
func TestPackedWrong(t *testing.T) {
	for _, c := range wrongPacked() {
		r := nums.New(c.b)
		for range 2 {
			if x, e := r.Packed(); x != 0 || e != c.e {
				t.Errorf("%s: Packed of %x: %d, %v; want %v", c.name, c.b, x, e, c.e)
			}
			at(t, c.name, r, 0, len(c.b))
		}
		r = nums.New(slices.Concat([]byte{5}, c.b))
		r.Packed()
		if x, e := r.Packed(); x != 0 || e != c.e {
			t.Errorf("%s: Packed of %x, further on: %d, %v; want %v", c.name, c.b, x, e, c.e)
		}
		at(t, c.name, r, 1, 1+len(c.b))
	}
}

// P1.2: a folded number.
func TestFolded(t *testing.T) {
	for x, b := range map[int64][]byte{
		0: {0}, -1: {1}, 1: {2}, -2: {3}, 2: {4}, -3: {5}, 63: {0x7e}, -64: {0x7f}, 64: {0x80, 1}, -65: {0x81, 1},
		math.MaxInt64: {0xfe, 0xff, 0xff, 0xff, 0xff, 0xff, 0xff, 0xff, 0xff, 1},
		math.MinInt64: {0xff, 0xff, 0xff, 0xff, 0xff, 0xff, 0xff, 0xff, 0xff, 1},
	} {
		r := nums.New(append(slices.Clone(b), 0x80))
		if y, e := r.Folded(); y != x || e != api.OK {
			t.Errorf("%x: %d, %v; want %d", b, y, e, x)
		}
		at(t, "Folded", r, len(b), len(b)+1)
	}
	for _, c := range wrongPacked() {
		r := nums.New(c.b)
		if x, e := r.Folded(); x != 0 || e != c.e {
			t.Errorf("%s: Folded of %x: %d, %v; want %v", c.name, c.b, x, e, c.e)
		}
		at(t, c.name, r, 0, len(c.b))
	}
}

// P1.3: a number that is at most most.
func TestCount(t *testing.T) {
	for _, c := range []struct {
		x    uint64
		most int
		e    api.Errno
	}{
		{0, 0, api.OK}, {0, 1, api.OK}, {1, 0, api.ErrRange}, {1, 1, api.OK}, {5, 4, api.ErrRange}, {5, 5, api.OK}, {5, 6, api.OK},
		{127, 127, api.OK}, {128, 127, api.ErrRange}, {300, 299, api.ErrRange}, {300, 300, api.OK},
		{1 << 32, math.MaxInt32, api.ErrRange}, {1 << 40, 0, api.ErrRange},
		{math.MaxInt64, math.MaxInt, api.OK}, {math.MaxInt64, math.MaxInt - 1, api.ErrRange},
		{1 << 63, math.MaxInt, api.ErrRange}, {1 << 63, 0, api.ErrRange}, {math.MaxUint64, math.MaxInt, api.ErrRange},
		{0, -1, api.ErrRange}, {3, -1, api.ErrRange}, {0, math.MinInt, api.ErrRange}, {math.MaxUint64, -1, api.ErrRange},
		{1 << 63, math.MinInt, api.ErrRange}, {math.MaxUint64, math.MinInt, api.ErrRange}, {math.MaxInt64, -1, api.ErrRange},
	} {
		b := nums.PutPacked([]byte{9}, c.x)
		r := nums.New(append(b, 1))
		r.Fixed(1)
		want, end := int(c.x), len(b)
		if c.e != api.OK {
			want, end = 0, 1
		}
		if n, e := r.Count(c.most); n != want || e != c.e {
			t.Errorf("Count(%d) of %d: %d, %v; want %v", c.most, c.x, n, e, c.e)
		}
		at(t, "Count", r, end, len(b)+1)
	}
}

// P1.3: Packed's errors come first, whatever most is.
func TestCountWrong(t *testing.T) {
	for _, c := range wrongPacked() {
		for _, most := range []int{0, 1, math.MaxInt, -1, math.MinInt} {
			r := nums.New(c.b)
			if n, e := r.Count(most); n != 0 || e != c.e {
				t.Errorf("%s: Count(%d) of %x: %d, %v; want %v", c.name, most, c.b, n, e, c.e)
			}
			at(t, c.name, r, 0, len(c.b))
			if s, e := r.Text(most); len(s) != 0 || e != c.e {
				t.Errorf("%s: Text(%d) of %x: %x, %v; want %v", c.name, most, c.b, s, e, c.e)
			}
			at(t, c.name, r, 0, len(c.b))
		}
	}
}

// P1.3: a text is its length and its bytes, and what is behind stays.
func TestText(t *testing.T) {
	b := []byte{0, 2, 'a', 'b', 3, 0, 0xff, 0x80, 1, 'z', 9}
	r := nums.New(b)
	end := 0
	for _, want := range []string{"", "ab", "\x00\xff\x80", "z"} {
		end += 1 + len(want)
		if s, e := r.Text(len(want)); string(s) != want || e != api.OK {
			t.Errorf("%x, %v; want %x", s, e, want)
		}
		at(t, "Text", r, end, len(b))
	}
	for _, n := range []int{127, 128, 300, api.MaxText} {
		long := bytes.Repeat([]byte{'x', 'y', 0}, n)[:n]
		r := nums.New(slices.Concat(nums.PutPacked(nil, uint64(n)), long))
		if s, e := r.Text(n); !bytes.Equal(s, long) || e != api.OK || r.Done() != api.OK {
			t.Errorf("of %d bytes: %d bytes, %v", n, len(s), e)
		}
	}
}

// P1.3: a text beyond most is told ahead of one that ends too soon.
func TestTextWrong(t *testing.T) {
	for _, c := range []struct {
		b    []byte
		most int
		e    api.Errno
	}{
		{[]byte{2, 1, 1}, 1, api.ErrRange}, {[]byte{2, 1, 1}, 0, api.ErrRange}, {[]byte{2, 1, 1}, -1, api.ErrRange},
		{[]byte{0}, -1, api.ErrRange}, {[]byte{0}, math.MinInt, api.ErrRange}, {[]byte{3, 1}, 2, api.ErrRange},
		{[]byte{1}, 0, api.ErrRange}, {[]byte{1}, 1, api.ErrShort}, {[]byte{3, 1, 1}, 3, api.ErrShort},
		{[]byte{3, 1, 1}, math.MaxInt, api.ErrShort}, {[]byte{0x80, 1, 5}, 1 << 20, api.ErrShort},
		{nums.PutPacked(nil, math.MaxInt64), math.MaxInt, api.ErrShort},
		{nums.PutPacked(nil, math.MaxInt64-1), math.MaxInt, api.ErrShort},
		{nums.PutPacked(nil, 1<<63), math.MaxInt, api.ErrRange},
		{nums.PutPacked(nil, math.MaxUint64), math.MaxInt, api.ErrRange},
		{nums.PutPacked(nil, math.MaxUint64), -1, api.ErrRange},
	} {
		b := slices.Concat([]byte{7}, c.b)
		r := nums.New(b)
		r.Fixed(1)
		if s, e := r.Text(c.most); len(s) != 0 || e != c.e {
			t.Errorf("Text(%d) of %x: %x, %v; want %v", c.most, c.b, s, e, c.e)
		}
		at(t, "Text", r, 1, len(b))
	}
}

// An error leaves the reader so that the same bytes can be read in another way.
func TestGoesOnBehindErrors(t *testing.T) {
	r := nums.New([]byte{0x83, 0x00, 0x04, 0x09, 0x09})
	if _, e := r.Packed(); e != api.ErrForm {
		t.Error(e)
	}
	if _, e := r.Fixed(8); e != api.ErrShort {
		t.Error(e)
	}
	if x, e := r.Fixed(2); x != 0x8300 || e != api.OK {
		t.Error(x, e)
	}
	if _, e := r.Text(4); e != api.ErrShort {
		t.Error(e)
	}
	if _, e := r.Text(3); e != api.ErrRange {
		t.Error(e)
	}
	if _, e := r.Count(3); e != api.ErrRange {
		t.Error(e)
	}
	if n, e := r.Count(4); n != 4 || e != api.OK {
		t.Error(n, e)
	}
	if x, e := r.Folded(); x != -5 || e != api.OK {
		t.Error(x, e)
	}
	at(t, "in the end", r, 4, 5)
}

// Of a nil Reader: ErrNil, 0, nothing; whatever else is wrong.
func TestNilReader(t *testing.T) {
	var r *nums.Reader
	if r.At() != 0 || r.Left() != 0 || r.Done() != api.ErrNil {
		t.Error("At, Left, Done:", r.At(), r.Left(), r.Done())
	}
	for _, n := range []int{0, 1, 2, 3, 4, 8, 9, -1, math.MaxInt, math.MinInt} {
		if x, e := r.Fixed(n); x != 0 || e != api.ErrNil {
			t.Errorf("Fixed(%d): %d, %v", n, x, e)
		}
		if x, e := r.Count(n); x != 0 || e != api.ErrNil {
			t.Errorf("Count(%d): %d, %v", n, x, e)
		}
		if s, e := r.Text(n); len(s) != 0 || e != api.ErrNil {
			t.Errorf("Text(%d): %x, %v", n, s, e)
		}
	}
	if x, e := r.Packed(); x != 0 || e != api.ErrNil {
		t.Error("Packed:", x, e)
	}
	if x, e := r.Folded(); x != 0 || e != api.ErrNil {
		t.Error("Folded:", x, e)
	}
}
