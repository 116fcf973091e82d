package kv_test

import (
	"bytes"
	"encoding/binary"
	"math"
	"slices"
	"testing"

	"consistory/api"
	"consistory/kv"
	"consistory/samples"
)

// putAndGot checks that c is put as those bytes, and got from them.
func putAndGot(t *testing.T, c values, want []byte) {
	t.Helper()
	if b := kv.Put(c); !bytes.Equal(b, want) {
		t.Errorf("%v: % x; want % x", c, b, want)
	}
	if d, e := kv.Get(want); e != api.OK || d != c {
		t.Errorf("% x: %v, %v; want %v", want, d, e, c)
	}
}

// P14.2: bytes written out by hand.
func TestPutKnown(t *testing.T) {
	putAndGot(t, values{}, []byte{0})
	putAndGot(t, only(0, value(0)), []byte{1, 0, 0})
	putAndGot(t, only(15, value(-1)), []byte{1, 15, 1})
	putAndGot(t, values{1: value(-3), 9: value(300)}, []byte{2, 1, 5, 9, 0xd8, 4})
	putAndGot(t, values{0: value(64), 1: value(-64), 15: value(1)}, []byte{3, 0, 0x80, 1, 1, 0x7f, 15, 2})
	putAndGot(t, only(7, value(math.MaxInt64)), []byte{1, 7, 0xfe, 0xff, 0xff, 0xff, 0xff, 0xff, 0xff, 0xff, 0xff, 1})
	putAndGot(t, only(8, value(math.MinInt64)), []byte{1, 8, 0xff, 0xff, 0xff, 0xff, 0xff, 0xff, 0xff, 0xff, 0xff, 1})
	putAndGot(t, samples.Among(allOf, []int64{0}), []byte{16, 0, 0, 1, 0, 2, 0, 3, 0, 4, 0, 5, 0, 6, 0, 7, 0, 8, 0, 9, 0, 10, 0, 11, 0, 12, 0, 13, 0, 14, 0, 15, 0})
}

// P14.2, P14.3: values of each set of keys are put, and got from that.
func TestPutOfEachSet(t *testing.T) {
	for set := range allOf + 1 {
		c := samples.Among(set, []int64{0, -1, 300, 5, -70000})
		putAndGot(t, c, samples.CellsBytes(c))
	}
}

// P14.2, P14.3: so is each value of each key, alone and with others ahead and behind.
func TestPutOfEachValue(t *testing.T) {
	ends := samples.Ends()
	for i, n := range ends {
		for key := range keys {
			c := only(key, value(n))
			putAndGot(t, c, samples.CellsBytes(c))
		}
		c := samples.Among(allOf, slices.Concat(ends[i:], ends[:i]))
		putAndGot(t, c, samples.CellsBytes(c))
	}
	r := chance()
	for range 3000 {
		c := samples.AnyCells(r)
		putAndGot(t, c, samples.CellsBytes(c))
	}
}

// P14.2, R3: a number where there is no value isn't put, and is got as 0.
func TestPutOfStrayNumbers(t *testing.T) {
	r := chance()
	for _, c := range []values{{}, only(3, value(5)), samples.AnyCells(r), samples.AnyCells(r), samples.AnyCells(r)} {
		if b := kv.Put(samples.Strayed(c)); !bytes.Equal(b, samples.CellsBytes(c)) {
			t.Errorf("%v: % x; want % x", samples.Strayed(c), b, samples.CellsBytes(c))
		}
		if d, e := kv.Get(kv.Put(samples.Strayed(c))); e != api.OK || d != c {
			t.Errorf("%v is got as %v, %v", samples.Strayed(c), d, e)
		}
	}
}

// P14.2: bytes that end anywhere within are too short.
func TestGetShort(t *testing.T) {
	r := chance()
	l := []values{samples.Among(allOf, samples.Ends()), samples.Among(allOf, []int64{0}), only(15, value(math.MinInt64))}
	for range 100 {
		l = append(l, samples.AnyCells(r))
	}
	for _, c := range l {
		b := samples.CellsBytes(c)
		for n := range b {
			refusedGet(t, "cut", b[:n], api.ErrShort)
		}
	}
}

// P14.2: bytes that are left are refused.
func TestGetLeft(t *testing.T) {
	for _, c := range []values{{}, only(0, value(0)), only(15, value(300)), samples.Among(allOf, samples.Ends())} {
		for _, left := range [][]byte{{0}, {15}, {16}, {0xff}, {15, 0}, {0x80, 0x80}, make([]byte, 300)} {
			refusedGet(t, "left", append(samples.CellsBytes(c), left...), api.ErrForm)
		}
	}
}

// P14.2: sixteen keys at most: a greater number is met ahead of all that is behind it; so is one that isn't told rightly.
func TestGetCount(t *testing.T) {
	whole := samples.CellsBytes(samples.Among(allOf, []int64{0}))[1:]
	for _, behind := range [][]byte{nil, whole, {0x80, 0}, {16, 0}, {3, 0, 3, 0}} {
		for _, n := range []uint64{17, 18, 127, 128, 256, 256 + 2, 1 << 16, 1<<32 + 2, 1 << 63, math.MaxUint64} {
			refusedGet(t, "too many", listed(n, behind), api.ErrRange)
		}
		for _, head := range []string{"\x80\x00", "\x82\x00", "\x90\x80\x00", "\x91\x00", "\xff\xff\xff\xff\xff\xff\xff\xff\xff\x02"} {
			refusedGet(t, "a number that isn't told so", append([]byte(head), behind...), api.ErrForm)
		}
	}
	for n := range uint64(keys + 1) {
		b := whole[:2*n]
		if c, e := kv.Get(listed(n, b)); e != api.OK || c != samples.Among(1<<n-1, []int64{0}) {
			t.Errorf("%d keys: %v, %v", n, c, e)
		}
		if n > 0 {
			refusedGet(t, "one less than told", listed(n, b[:2*n-2]), api.ErrShort)
			refusedGet(t, "one more than told", listed(n-1, b), api.ErrForm)
		}
	}
}

// P14.2: of each two keys: both must be there, and the second one above the first.
func TestGetKeys(t *testing.T) {
	for one := range 256 {
		for other := range 256 {
			b := listed(2, pair(byte(one), 5), pair(byte(other), -300))
			if one >= other || other >= keys {
				refusedGet(t, "two keys", b, api.ErrForm)
				continue
			}
			c := only(one, value(5))
			c[other] = value(-300)
			putAndGot(t, c, b)
		}
	}
}

// P14.2: keys that are there rise, wherever one of them doesn't.
func TestGetRising(t *testing.T) {
	for at := range keys - 1 {
		for _, turned := range []func(l [][]byte){
			func(l [][]byte) { l[at], l[at+1] = l[at+1], l[at] },
			func(l [][]byte) { l[at+1] = l[at] },
			func(l [][]byte) { l[at] = pair(keys, 0) },
			func(l [][]byte) { slices.Reverse(l[at:]) },
		} {
			var l [][]byte
			for key := range byte(keys) {
				l = append(l, pair(key, int64(key)))
			}
			turned(l)
			refusedGet(t, "not rising", listed(keys, l...), api.ErrForm)
		}
	}
}

// P14.2: what is wrong is told as it is met: a key's value ahead of whether there is such a key, that ahead of what is behind, and bytes that are left at last.
func TestGetOrder(t *testing.T) {
	over := "\xff\xff\xff\xff\xff\xff\xff\xff\xff"
	for _, c := range []struct {
		b    string
		want api.Errno
	}{
		{"", api.ErrShort}, {"\x80", api.ErrShort}, {"\x01", api.ErrShort}, {"\x01\x03", api.ErrShort}, {"\x01\x03\x80", api.ErrShort}, {"\x01\x03" + over, api.ErrShort},
		{"\x01\x10", api.ErrShort}, {"\x01\xff\x80", api.ErrShort}, {"\x02\x03\x05\x03", api.ErrShort}, {"\x02\x03\x05\x02\x80", api.ErrShort},
		{"\x01\x03\x80\x00", api.ErrForm}, {"\x01\x03\x85\x80\x00", api.ErrForm}, {"\x01\x03" + over + "\x02", api.ErrForm}, {"\x01\x03" + over + "\x80", api.ErrForm}, {"\x01\x10\x80\x00", api.ErrForm},
		{"\x01\x10\x05", api.ErrForm}, {"\x02\x10\x05", api.ErrForm}, {"\x02\x10\x05\x03", api.ErrForm}, {"\x03\x03\x05\x03\x05", api.ErrForm}, {"\x03\x03\x05\x02\x05\x04\x80", api.ErrForm},
		{"\x02\x03\x05", api.ErrShort}, {"\x02\x03\x05\x10", api.ErrShort}, {"\x10\x03\x05\x04\x05", api.ErrShort},
		{"\x01\x03\x05\x04", api.ErrForm}, {"\x00\x03", api.ErrForm}, {"\x00\x80", api.ErrForm}, {"\x01\x03\x05\x80", api.ErrForm},
		{"\x11", api.ErrRange}, {"\x11\x80\x00", api.ErrRange}, {"\x91\x00", api.ErrForm}, {"\x91\x01", api.ErrRange}, {"\x91", api.ErrShort},
	} {
		refusedGet(t, "by what is met", []byte(c.b), c.want)
	}
}

// P14.2, P14.3: what is got from any bytes has just these bytes, and each error is met.
func TestGetOfAnyBytes(t *testing.T) {
	r := chance()
	count := map[api.Errno]int{}
	for range 20000 {
		b := samples.CellsBytes(samples.AnyCells(r))
		switch r.IntN(3) {
		case 0:
			b[r.IntN(len(b))] ^= 1 << r.IntN(8)
		case 1:
			b = append(b[:r.IntN(len(b))], samples.Text(r, r.IntN(4))...)
		case 2:
			b = binary.AppendUvarint(nil, uint64(r.IntN(3)))
			for range r.IntN(3) {
				b = append(b, byte(r.IntN(keys+2)), byte(r.IntN(256)))
			}
		}
		c, e := kv.Get(b)
		if count[e]++; e != api.OK {
			refusedGet(t, "any bytes", b, e)
		} else if again := kv.Put(c); !bytes.Equal(again, b) {
			t.Errorf("% x is %v, of which the bytes are % x", b, c, again)
		}
	}
	for _, e := range []api.Errno{api.OK, api.ErrShort, api.ErrForm, api.ErrRange} {
		if count[e] < 100 {
			t.Errorf("%v: just %d times", e, count[e])
		}
	}
	if len(count) != 4 {
		t.Errorf("there are other errors: %v", count)
	}
}
