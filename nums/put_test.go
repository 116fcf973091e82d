package nums_test

import (
	"bytes"
	"math"
	"slices"
	"testing"

	"consistory/api"
	"consistory/nums"
)

// P1.4: the lowest n bytes, the highest of them first, behind what is there.
func TestPutFixed(t *testing.T) {
	for _, c := range []struct {
		x    uint64
		n    int
		want []byte
	}{
		{0, 1, []byte{0}}, {0xff, 1, []byte{0xff}}, {0x1234, 1, []byte{0x34}}, {math.MaxUint64, 1, []byte{0xff}},
		{0x34, 2, []byte{0, 0x34}}, {0x1234, 2, []byte{0x12, 0x34}}, {0x56781234, 2, []byte{0x12, 0x34}},
		{1, 4, []byte{0, 0, 0, 1}}, {0x81828384, 4, []byte{0x81, 0x82, 0x83, 0x84}}, {0xff01020304, 4, []byte{1, 2, 3, 4}},
		{1, 8, []byte{0, 0, 0, 0, 0, 0, 0, 1}}, {0x8102030405060788, 8, []byte{0x81, 2, 3, 4, 5, 6, 7, 0x88}},
		{math.MaxUint64, 8, bytes.Repeat([]byte{0xff}, 8)}, {1 << 63, 8, []byte{0x80, 0, 0, 0, 0, 0, 0, 0}},
	} {
		for _, b := range [][]byte{nil, {}, {9}, {9, 8, 7}} {
			if got := nums.PutFixed(b, c.x, c.n); !bytes.Equal(got, slices.Concat(b, c.want)) {
				t.Errorf("PutFixed(%x, %x, %d): %x", b, c.x, c.n, got)
			}
		}
	}
	for _, n := range []int{0, 3, 5, 6, 7, 9, 16, 64, -1, -8, 256 + 1, 1<<32 + 2, math.MaxInt, math.MinInt} {
		for _, b := range [][]byte{nil, {}, {9}, {9, 8, 7}} {
			if got := nums.PutFixed(b, 0x0102030405060708, n); !bytes.Equal(got, b) {
				t.Errorf("PutFixed(%x, .., %d): %x", b, n, got)
			}
		}
	}
}

// P1.4: by as few bytes as can be, from one to ten.
func TestPutPacked(t *testing.T) {
	for _, c := range packedCases() {
		for _, b := range [][]byte{nil, {}, {0x80}, {9, 8, 0xff}} {
			if got := nums.PutPacked(b, c.x); !bytes.Equal(got, slices.Concat(b, c.b)) {
				t.Errorf("PutPacked(%x, %d): %x; want %x behind", b, c.x, got, c.b)
			}
		}
	}
	for i := range 64 {
		if got := len(nums.PutPacked(nil, 1<<i)); got != i/7+1 {
			t.Errorf("1<<%d by %d bytes", i, got)
		}
	}
}

// P1.4: folded, then packed.
func TestPutFolded(t *testing.T) {
	for x, want := range map[int64][]byte{
		0: {0}, -1: {1}, 1: {2}, -3: {5}, 63: {0x7e}, -64: {0x7f}, 64: {0x80, 1}, -65: {0x81, 1}, 150: {0xac, 2},
		math.MaxInt64: {0xfe, 0xff, 0xff, 0xff, 0xff, 0xff, 0xff, 0xff, 0xff, 1},
		math.MinInt64: {0xff, 0xff, 0xff, 0xff, 0xff, 0xff, 0xff, 0xff, 0xff, 1},
	} {
		for _, b := range [][]byte{nil, {}, {0x80, 7}} {
			if got := nums.PutFolded(b, x); !bytes.Equal(got, slices.Concat(b, want)) {
				t.Errorf("PutFolded(%x, %d): %x; want %x behind", b, x, got, want)
			}
		}
	}
}

// P1.4: the length, packed, and the bytes.
func TestPutText(t *testing.T) {
	for _, c := range []struct {
		n    int
		head []byte
	}{{0, []byte{0}}, {1, []byte{1}}, {127, []byte{127}}, {128, []byte{0x80, 1}}, {300, []byte{0xac, 2}}, {1 << 16, []byte{0x80, 0x80, 4}}, {1<<16 + 1, []byte{0x81, 0x80, 4}}} {
		text := bytes.Repeat([]byte{'a', 0, 0xff}, c.n)[:c.n]
		for _, b := range [][]byte{nil, {}, {9, 8}} {
			if got := nums.PutText(b, text); !bytes.Equal(got, slices.Concat(b, c.head, text)) {
				t.Errorf("PutText of %d bytes begins with %x", c.n, got[:min(len(got), 8)])
			}
		}
	}
	if got := nums.PutText([]byte{5}, nil); !bytes.Equal(got, []byte{5, 0}) {
		t.Errorf("PutText of nil: %x", got)
	}
	b := []byte{2, 3}
	if got := nums.PutText(b, b); !bytes.Equal(got, []byte{2, 3, 2, 2, 3}) {
		t.Errorf("PutText of a list behind itself: %x", got)
	}
}

// P1.4: there and back, with the edges of numbers of 64 bits.
func TestFold(t *testing.T) {
	for x, want := range map[int64]uint64{
		0: 0, -1: 1, 1: 2, -2: 3, 2: 4, -3: 5, 3: 6, 1 << 31: 1 << 32, -1 << 31: 1<<32 - 1,
		math.MaxInt64: math.MaxUint64 - 1, math.MinInt64: math.MaxUint64, math.MaxInt64 - 1: math.MaxUint64 - 3, math.MinInt64 + 1: math.MaxUint64 - 2,
		1 << 62: 1 << 63, -1 << 62: 1<<63 - 1,
	} {
		if got := nums.Fold(x); got != want {
			t.Errorf("Fold(%d) = %d; want %d", x, got, want)
		}
		if got := nums.Unfold(want); got != x {
			t.Errorf("Unfold(%d) = %d; want %d", want, got, x)
		}
	}
	next := random()
	for range 10000 {
		x := next()
		if nums.Fold(nums.Unfold(x)) != x || nums.Unfold(nums.Fold(int64(x))) != int64(x) {
			t.Errorf("there and back: %x", x)
		}
	}
}

// P1.5: what is put is read back.
func TestPutIsRead(t *testing.T) {
	next := random()
	for i := range 3000 {
		// Numbers of all lengths: one of 64 bits seldom has few.
		x, y := next()>>(i%64), int64(next())>>(i%64)
		text := bytes.Repeat([]byte{byte(x)}, int(next()%400))
		n := 1 << (i % 4)
		b := nums.PutFixed(nil, x, n)
		b = nums.PutPacked(b, x)
		b = nums.PutFolded(b, y)
		b = nums.PutPacked(b, x>>1)
		b = nums.PutText(b, text)
		r := nums.New(b)
		if got, e := r.Fixed(n); got != x&(math.MaxUint64>>(64-8*n)) || e != api.OK {
			t.Fatalf("Fixed(%d) of %x: %x, %v", n, x, got, e)
		}
		if got, e := r.Packed(); got != x || e != api.OK {
			t.Fatalf("Packed of %x: %x, %v", x, got, e)
		}
		if got, e := r.Folded(); got != y || e != api.OK {
			t.Fatalf("Folded of %d: %d, %v", y, got, e)
		}
		if got, e := r.Count(math.MaxInt); got != int(x>>1) || e != api.OK {
			t.Fatalf("Count of %x: %x, %v", x>>1, got, e)
		}
		if got, e := r.Text(len(text)); !bytes.Equal(got, text) || e != api.OK {
			t.Fatalf("Text of %d bytes: %d bytes, %v", len(text), len(got), e)
		}
		if e := r.Done(); e != api.OK {
			t.Fatal("Done:", e)
		}
	}
}

// readIsPut checks P1.5 on whatever begins b.
func readIsPut(t *testing.T, b []byte) {
	t.Helper()
	r := nums.New(b)
	if x, e := r.Packed(); e == api.OK && !bytes.Equal(nums.PutPacked(nil, x), b[:r.At()]) {
		t.Errorf("Packed of %x is %d, which is put as %x", b, x, nums.PutPacked(nil, x))
	}
	r = nums.New(b)
	if x, e := r.Folded(); e == api.OK && !bytes.Equal(nums.PutFolded(nil, x), b[:r.At()]) {
		t.Errorf("Folded of %x is %d, which is put as %x", b, x, nums.PutFolded(nil, x))
	}
	r = nums.New(b)
	if n, e := r.Count(math.MaxInt); e == api.OK && !bytes.Equal(nums.PutPacked(nil, uint64(n)), b[:r.At()]) {
		t.Errorf("Count of %x is %d, which is put as %x", b, n, nums.PutPacked(nil, uint64(n)))
	}
	r = nums.New(b)
	if s, e := r.Text(math.MaxInt); e == api.OK && !bytes.Equal(nums.PutText(nil, s), b[:r.At()]) {
		t.Errorf("Text of %x is %x, which is put as %x", b, s, nums.PutText(nil, s))
	}
	for _, n := range []int{1, 2, 4, 8} {
		r = nums.New(b)
		if x, e := r.Fixed(n); e == api.OK && !bytes.Equal(nums.PutFixed(nil, x, n), b[:r.At()]) {
			t.Errorf("Fixed(%d) of %x is %x, which is put as %x", n, b, x, nums.PutFixed(nil, x, n))
		}
	}
}

// P1.5: what is read, put again, is the bytes that were read.
func TestReadIsPut(t *testing.T) {
	for i := range 1 << 16 {
		readIsPut(t, []byte{byte(i >> 8), byte(i)})
	}
	edges := []byte{0, 1, 2, 0x7f, 0x80, 0x81, 0xff}
	next := random()
	for range 20000 {
		b := make([]byte, next()%13)
		for i := range b {
			b[i] = edges[next()%uint64(len(edges))] | byte(next()&0x80)
		}
		readIsPut(t, b)
	}
}
