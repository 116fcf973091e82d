package wire_test

import (
	"bytes"
	"encoding/binary"
	"slices"
	"testing"

	"consistory/api"
	"consistory/samples"
	"consistory/wire"
)

// P8.2: each message that is formed is got.
func TestGet(t *testing.T) {
	for _, m := range formedMsgs() {
		if got, e := wire.Get(bytesOf(m)); e != api.OK || !samples.SameMsg(got, m) {
			t.Errorf("%v is got as %v, %v", brief(m), brief(got), e)
		}
	}
}

// P8.2: each number that its bytes can tell: within its bounds alone the message is got.
func TestGetNumbers(t *testing.T) {
	for _, n := range numbers() {
		for x := range 1 << (8 * n.size) {
			m := changed(vote(), n, x)
			if x < n.least || x > n.most {
				refusedGet(t, n.name, bytesOf(m), api.ErrArg)
			} else if got, e := wire.Get(bytesOf(m)); e != api.OK || !samples.SameMsg(got, m) {
				t.Errorf("%s is %d: %v, %v", n.name, x, brief(got), e)
			}
		}
	}
}

// P8.2: one that isn't formed isn't got, where all else is right.
func TestGetOfWrong(t *testing.T) {
	for _, m := range wrongMsgs() {
		refusedGet(t, "not formed", bytesOf(m), api.ErrArg)
	}
	refusedGet(t, "nothing but noughts", make([]byte, bare), api.ErrArg)
}

// P8.2: bytes that end anywhere within are too short, also of what isn't formed.
func TestGetShort(t *testing.T) {
	wrong := changed(withBody(20, 3, 0, 150), numbers()[0], 0)
	for _, m := range []api.Msg{vote(), withBody(20, 3, 0, 150), withBody(300), withBody(0, 0, 0), wrong, {}} {
		b := bytesOf(m)
		for n := range b {
			refusedGet(t, "cut", b[:n], api.ErrShort)
		}
	}
	for _, m := range fullest() {
		refusedGet(t, "the last byte is cut", bytesOf(m)[:room-1], api.ErrShort)
	}
	refusedGet(t, "nil", nil, api.ErrShort)
	refusedGet(t, "nothing", []byte{}, api.ErrShort)
}

// P8.2: bytes that are left are refused, ahead of whether the message is formed.
func TestGetLeft(t *testing.T) {
	for _, m := range append(wrongMsgs(), vote(), withBody(20, 3, 0, 150), withBody(0, make([]int, parts)...), api.Msg{}) {
		for _, n := range []int{1, 2, 300} {
			refusedGet(t, "bytes left", append(bytesOf(m), make([]byte, n)...), api.ErrForm)
		}
	}
	refusedGet(t, "bytes left, 65504 in all", append(bytesOf(vote()), make([]byte, room-bare)...), api.ErrForm)
}

// P8.2: more than 65504 bytes are too many, whatever they tell.
func TestGetFull(t *testing.T) {
	for _, n := range []int{room + 1, room + 2, api.MaxText - 1, api.MaxText, api.MaxText + 1, 1 << 20} {
		refusedGet(t, "noughts", make([]byte, n), api.ErrFull)
		refusedGet(t, "a message, and bytes left", append(bytesOf(vote()), make([]byte, n-bare)...), api.ErrFull)
		refusedGet(t, "a body alone", bytesOf(withBody(n-bare-2)), api.ErrFull)
		refusedGet(t, "a part alone", bytesOf(withBody(0, n-bare-3)), api.ErrFull)
	}
	for _, m := range fullMsgs() {
		if b := bytesOf(m); len(b) > room {
			refusedGet(t, "too much", b, api.ErrFull)
		} else {
			refusedGet(t, "too many parts", b, api.ErrRange)
		}
	}
	refusedGet(t, "noughts, not too many", make([]byte, room), api.ErrForm)
}

// P8.2: Body, and each part, has at most 65536 bytes: a length that is above is met ahead of bytes that aren't there.
func TestGetBounds(t *testing.T) {
	for _, c := range []struct {
		n    uint64
		want api.Errno
	}{
		{room, api.ErrShort}, {65535, api.ErrShort}, {65536, api.ErrShort}, {65537, api.ErrRange}, {1 << 32, api.ErrRange}, {1<<63 + 1, api.ErrRange}, {1<<64 - 1, api.ErrRange},
	} {
		length := binary.AppendUvarint(nil, c.n)
		first := headOf(vote())
		refusedGet(t, "a body", slices.Concat(first, length), c.want)
		refusedGet(t, "a body, and bytes", slices.Concat(first, length, make([]byte, 60000)), c.want)
		first = append(first, 0, 2)
		refusedGet(t, "a part", slices.Concat(first, length), c.want)
		refusedGet(t, "a part, and bytes", slices.Concat(first, length, make([]byte, 60000)), c.want)
		first = append(first, 1, 7)
		refusedGet(t, "a second part", slices.Concat(first, length), c.want)
		refusedGet(t, "a second part, and bytes", slices.Concat(first, length, make([]byte, 60000)), c.want)
	}
}

// P8.2: there are at most sixteen parts: a number that is above is met ahead of parts that aren't there.
func TestGetParts(t *testing.T) {
	first := append(headOf(vote()), 0)
	for n := range uint64(40) {
		want := api.ErrShort
		if n > parts {
			want = api.ErrRange
		}
		if n > 0 {
			refusedGet(t, "a number of parts, and none of them", append(slices.Clone(first), samples.CountAnd(n)...), want)
			refusedGet(t, "one part misses", append(slices.Clone(first), samples.CountAnd(n, make([][]byte, n-1)...)...), want)
		}
		b := append(slices.Clone(first), samples.CountAnd(n, make([][]byte, n)...)...)
		if n > parts {
			refusedGet(t, "too many parts", b, api.ErrRange)
		} else if m, e := wire.Get(b); e != api.OK || len(m.Parts) != int(n) {
			t.Errorf("%d parts: %v, %v", n, brief(m), e)
		}
		if n < parts {
			refusedGet(t, "a part too many", append(slices.Clone(first), samples.CountAnd(n, make([][]byte, n+1)...)...), api.ErrForm)
		}
	}
	for _, n := range []uint64{128, 1 << 16, 1 << 32, 1<<32 + 1, 1 << 63, 1<<64 - 1} {
		refusedGet(t, "far too many parts", append(slices.Clone(first), samples.CountAnd(n)...), api.ErrRange)
	}
}

// P8.2: numbers that aren't told by as few bytes as can be are refused, wherever they stand.
func TestGetLongNumbers(t *testing.T) {
	first := headOf(vote())
	for what, rest := range map[string][]byte{
		"the body's length":          {0x80, 0, 0},
		"the length of a body of 2":  {0x82, 0, 1, 2, 0},
		"the number of parts":        {0, 0x80, 0},
		"the number of one part":     {0, 0x81, 0, 1, 5},
		"the length of a part":       {0, 1, 0x81, 0, 5},
		"the length of another part": {0, 2, 1, 5, 0x80, 0},
		"a length of three bytes":    {0x82, 0x80, 0, 1, 2, 0},
		"a length of 65 bits":        {0xff, 0xff, 0xff, 0xff, 0xff, 0xff, 0xff, 0xff, 0xff, 2, 0},
		"a length of eleven bytes":   {0xff, 0xff, 0xff, 0xff, 0xff, 0xff, 0xff, 0xff, 0xff, 0xff, 0, 0},
	} {
		refusedGet(t, what, append(slices.Clone(first), rest...), api.ErrForm)
	}
}

// P8.2: errors are told as they are met: what is wrong behind the first changes nothing, and whether the numbers are right is asked last.
func TestGetInOrder(t *testing.T) {
	type piece struct {
		b    []byte
		want api.Errno // OK, if nothing is wrong with it
	}
	bodies := []piece{{[]byte{0}, api.OK}, {[]byte{2, 7, 8}, api.OK}, {[]byte{0x80, 0}, api.ErrForm}, {[]byte{0x81, 0x80, 4}, api.ErrRange}}
	counts := []piece{{[]byte{1}, api.OK}, {[]byte{0x81, 0}, api.ErrForm}, {[]byte{17}, api.ErrRange}}
	singles := []piece{{[]byte{1, 9}, api.OK}, {[]byte{0x81, 0, 9}, api.ErrForm}, {[]byte{0xff, 0xff, 4}, api.ErrRange}, {[]byte{3, 1}, api.ErrShort}, {nil, api.ErrShort}}
	ends := []piece{{nil, api.OK}, {[]byte{0}, api.ErrForm}}
	heads := []piece{{headOf(vote()), api.OK}}
	for _, n := range numbers() {
		heads = append(heads, piece{headOf(changed(vote(), n, n.most+1)), api.ErrArg})
	}
	for _, first := range heads {
		for _, body := range bodies {
			for _, count := range counts {
				for _, single := range singles {
					for _, end := range ends {
						if single.want == api.ErrShort && end.b != nil {
							continue // the end would belong to the part
						}
						want := api.OK
						for _, p := range []piece{body, count, single, end, first} {
							if want == api.OK {
								want = p.want
							}
						}
						b := slices.Concat(first.b, body.b, count.b, single.b, end.b)
						if want != api.OK {
							refusedGet(t, "pieces", b, want)
						} else if m, e := wire.Get(b); e != api.OK || !bytes.Equal(bytesOf(m), b) {
							t.Errorf("% x: %v, %v", b, brief(m), e)
						}
					}
				}
			}
		}
	}
}

// P8.3: what is got from any bytes has just these bytes; a changed byte makes another message, or none.
func TestGetOfAnyBytes(t *testing.T) {
	r := chance()
	got, refused := 0, 0
	for _, m := range formedMsgs() {
		whole := bytesOf(m)
		for range 60 {
			b := slices.Clone(whole)
			at := r.IntN(len(b))
			if r.IntN(3) == 0 {
				at = r.IntN(start)
			}
			b[at] ^= byte(1 << r.IntN(8))
			back, e := wire.Get(b)
			if e != api.OK {
				refused++
				if !samples.SameMsg(back, api.Msg{}) {
					t.Errorf("%v beside %v", brief(back), e)
				}
				continue
			}
			got++
			again, e := wire.Put(back)
			if e != api.OK || !bytes.Equal(again, b) || samples.SameMsg(back, m) {
				t.Errorf("%v: %d bytes, %v", brief(back), len(again), e)
			}
		}
	}
	if got == 0 || refused == 0 {
		t.Errorf("%d messages were got, %d refused", got, refused)
	}
}

// P8.3: so it is of bytes that were never a message's.
func TestGetOfChance(t *testing.T) {
	r := chance()
	got := 0
	for range 100000 {
		b := headOf(api.Msg{Kind: r.IntN(14), From: r.IntN(17), View: r.IntN(62), Reg: r.IntN(42), Slot: r.IntN(62), Hash: samples.Hash(r)})
		for range 2 + r.IntN(8) {
			b = append(b, byte(r.IntN(4)))
		}
		m, e := wire.Get(b)
		if e != api.OK {
			continue
		}
		got++
		if again, e := wire.Put(m); e != api.OK || !bytes.Equal(again, b) || !bytes.Equal(bytesOf(m), b) {
			t.Errorf("% x: % x, %v", b, again, e)
		}
	}
	if got == 0 {
		t.Error("no message was got")
	}
}
