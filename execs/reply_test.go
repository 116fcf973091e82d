package execs_test

import (
	"bytes"
	"encoding/binary"
	"math"
	"slices"
	"testing"

	"consistory/api"
	"consistory/execs"
	"consistory/samples"
)

// replyPutAndGot checks that r is put as those bytes, and got from them.
func replyPutAndGot(t *testing.T, r api.Reply, want []byte) {
	t.Helper()
	if b := execs.PutReply(r); !bytes.Equal(b, want) {
		t.Errorf("%v: % x; want % x", r, b, want)
	}
	if s, e := execs.GetReply(want); e != api.OK || s != r {
		t.Errorf("% x: %v, %v; want %v", want, s, e, r)
	}
}

// P15.2: bytes written out by hand.
func TestReplyKnown(t *testing.T) {
	replyPutAndGot(t, api.Reply{}, []byte{0, 0, 0, 0, 0})
	replyPutAndGot(t, answer(2, 3, 4, true, -3), []byte{2, 3, 4, 1, 5})
	replyPutAndGot(t, answer(5, 8, 60, false, 300), []byte{5, 8, 60, 0, 0xd8, 4})
	replyPutAndGot(t, answer(0, 1, 60, true, 60), []byte{0, 1, 60, 1, 120})
	replyPutAndGot(t, answer(255, 255, 255, true, math.MinInt64), []byte{255, 255, 255, 1, 0xff, 0xff, 0xff, 0xff, 0xff, 0xff, 0xff, 0xff, 0xff, 1})
}

// P15.2: each number that a byte tells, whether or not there is such a client or slot, and each N.
func TestReplyNumbers(t *testing.T) {
	for x := range 256 {
		for _, r := range []api.Reply{answer(x, 1, 2, true, 3), answer(1, x, 2, false, 3), answer(1, 2, x, true, 3)} {
			replyPutAndGot(t, r, replyBytes(r))
		}
	}
	for _, n := range samples.Ends() {
		for _, ok := range []bool{true, false} {
			r := answer(1, 2, 3, ok, n)
			replyPutAndGot(t, r, replyBytes(r))
		}
	}
	r := chance()
	for range 3000 {
		one := anyReply(r)
		replyPutAndGot(t, one, replyBytes(one))
	}
}

// P15.2: of a number that a byte can't tell the lowest one is put, as layer 1 does.
func TestReplyFar(t *testing.T) {
	for _, x := range append(samples.Numbers(), 256+5, 1<<32+5, -251) {
		for _, r := range []api.Reply{answer(x, 1, 2, true, 3), answer(1, x, 2, false, 3), answer(1, 2, x, true, 3), answer(x, x, x, true, -3)} {
			if b := execs.PutReply(r); !bytes.Equal(b, replyBytes(r)) {
				t.Errorf("%v: % x; want % x", r, b, replyBytes(r))
			}
		}
	}
}

// P15.2: whether it did is told by 1 or 0 alone.
func TestReplyDid(t *testing.T) {
	for did := range 256 {
		for _, n := range samples.Ends() {
			b := binary.AppendVarint([]byte{1, 2, 3, byte(did)}, n)
			if did > 1 {
				refusedReply(t, "neither", b, api.ErrForm)
				continue
			}
			if r, e := execs.GetReply(b); e != api.OK || r != answer(1, 2, 3, did == 1, n) {
				t.Errorf("% x: %v, %v", b, r, e)
			}
		}
	}
}

// P15.2: bytes that end anywhere within are too short, whatever they tell till then; those that are left are refused.
func TestReplyShortAndLeft(t *testing.T) {
	r := chance()
	l := [][]byte{{1, 2, 3, 2, 5}, {1, 2, 3, 255, 0xff, 1}, replyBytes(answer(255, 255, 255, true, math.MinInt64)), replyBytes(api.Reply{})}
	for range 100 {
		l = append(l, replyBytes(anyReply(r)))
	}
	for _, b := range l {
		for n := range b {
			refusedReply(t, "cut", b[:n], api.ErrShort)
		}
		for _, left := range [][]byte{{0}, {1}, {0x80}, {0xff, 0xff}, make([]byte, 1000), b} {
			refusedReply(t, "left", slices.Concat(b, left), api.ErrForm)
		}
	}
}

// P15.2: an N that isn't told rightly is refused as layer 1 does, ahead of all else.
func TestReplyN(t *testing.T) {
	over := "\xff\xff\xff\xff\xff\xff\xff\xff\xff"
	for _, head := range []string{"\x01\x02\x03\x00", "\x01\x02\x03\x01", "\x01\x02\x03\x02", "\xff\xff\xff\xff"} {
		for _, n := range []string{"\x80\x00", "\x85\x80\x00", over + "\x02", over + "\x80", "\x80\x00\x00"} {
			refusedReply(t, "an N that isn't told so", []byte(head+n), api.ErrForm)
		}
		for _, n := range []string{"", "\x80", "\xff\xff", over} {
			refusedReply(t, "an N that ends within", []byte(head+n), api.ErrShort)
		}
	}
}

// P15.2: what is got from any bytes has just these bytes.
func TestReplyOfAnyBytes(t *testing.T) {
	r := chance()
	count := map[api.Errno]int{}
	for range 20000 {
		b := replyBytes(anyReply(r))
		switch r.IntN(3) {
		case 0:
			b[r.IntN(len(b))] ^= 1 << r.IntN(8)
		case 1:
			b = append(b[:r.IntN(len(b))], samples.Text(r, r.IntN(3))...)
		case 2:
			b = samples.Text(r, r.IntN(9))
		}
		one, e := execs.GetReply(b)
		if count[e]++; e != api.OK {
			refusedReply(t, "any bytes", b, e)
		} else if again := execs.PutReply(one); !bytes.Equal(again, b) {
			t.Errorf("% x is %v, of which the bytes are % x", b, one, again)
		}
	}
	for _, e := range []api.Errno{api.OK, api.ErrShort, api.ErrForm} {
		if count[e] < 100 {
			t.Errorf("%v: just %d times", e, count[e])
		}
	}
	if len(count) != 3 {
		t.Errorf("there are other errors: %v", count)
	}
}
