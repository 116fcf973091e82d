package wire_test

import (
	"bytes"
	"slices"
	"testing"

	"consistory/api"
	"consistory/samples"
	"consistory/wire"
)

// P8.1: bytes written out by hand.
func TestPutKnown(t *testing.T) {
	none := make([]byte, 32)
	digest := append([]byte{9}, make([]byte, 30)...)
	digest = append(digest, 7)
	long := bytes.Repeat([]byte{5}, 300)
	for _, c := range []struct {
		m    api.Msg
		want []byte
	}{
		{api.Msg{Kind: 2, From: 3}, slices.Concat([]byte{2, 3, 0, 0, 0, 0, 0, 0}, none, []byte{0, 0})},
		{api.Msg{Kind: 12, From: 15, View: 60, Reg: 40, Slot: 59}, slices.Concat([]byte{12, 15, 0, 60, 0, 40, 0, 59}, none, []byte{0, 0})},
		{api.Msg{Kind: 1, View: 1, Reg: 2, Slot: 3, Hash: api.Hash(digest)}, slices.Concat([]byte{1, 0, 0, 1, 0, 2, 0, 3}, digest, []byte{0, 0})},
		{api.Msg{Kind: 7, Body: []byte("ab")}, slices.Concat([]byte{7, 0, 0, 0, 0, 0, 0, 0}, none, []byte{2, 'a', 'b', 0})},
		{api.Msg{Kind: 6, Parts: [][]byte{{1}, nil, {2, 3}}}, slices.Concat([]byte{6, 0, 0, 0, 0, 0, 0, 0}, none, []byte{0, 3, 1, 1, 0, 2, 2, 3})},
		{api.Msg{Kind: 6, Body: long, Parts: [][]byte{long}}, slices.Concat([]byte{6, 0, 0, 0, 0, 0, 0, 0}, none, []byte{0xac, 2}, long, []byte{1, 0xac, 2}, long)},
	} {
		if got, e := wire.Put(c.m); e != api.OK || !bytes.Equal(got, c.want) {
			t.Errorf("%v: % x, %v; want % x", brief(c.m), got, e, c.want)
		}
		if got, e := wire.Get(c.want); e != api.OK || !samples.SameMsg(got, c.m) {
			t.Errorf("% x: %v, %v; want %v", c.want, brief(got), e, brief(c.m))
		}
		if got := wire.Size(c.m); got != len(c.want) {
			t.Errorf("%v: %d bytes; want %d", brief(c.m), got, len(c.want))
		}
	}
}

// P8.1: each message that is formed is put.
func TestPut(t *testing.T) {
	for _, m := range formedMsgs() {
		if got, e := wire.Put(m); e != api.OK || !bytes.Equal(got, bytesOf(m)) {
			t.Errorf("%v: %d bytes, %v", brief(m), len(got), e)
		}
	}
}

// P8.1: each number, whatever it is: within its bounds alone the message is formed.
func TestPutNumbers(t *testing.T) {
	for _, n := range numbers() {
		for x := -3; x < 70; x++ {
			m := changed(vote(), n, x)
			if x < n.least || x > n.most {
				refusedPut(t, n.name, m, api.ErrArg)
				continue
			}
			if got, e := wire.Put(m); e != api.OK || !bytes.Equal(got, bytesOf(m)) {
				t.Errorf("%s is %d: % x, %v", n.name, x, got, e)
			}
		}
	}
}

// P8.1: one that isn't formed has no bytes.
func TestPutOfWrong(t *testing.T) {
	for _, m := range append(wrongMsgs(), farMsgs()...) {
		refusedPut(t, "not formed", m, api.ErrArg)
	}
	refusedPut(t, "nothing", api.Msg{}, api.ErrArg)
}

// P8.1: a message of just 65504 bytes is put, whatever they are; one of a byte more is too much.
func TestPutRoom(t *testing.T) {
	for _, m := range fullest() {
		if len(bytesOf(m)) != room {
			t.Fatalf("%v has %d bytes", brief(m), len(bytesOf(m)))
		}
		if got, e := wire.Put(m); e != api.OK || !bytes.Equal(got, bytesOf(m)) {
			t.Errorf("%v: %d bytes, %v", brief(m), len(got), e)
		}
	}
	for _, m := range fullMsgs() {
		refusedPut(t, "too much", m, api.ErrFull)
	}
}

// P8.1: sixteen parts are put, seventeen are too many, however small.
func TestPutParts(t *testing.T) {
	for n := range 20 {
		m := withBody(3, make([]int, n)...)
		if n > parts {
			refusedPut(t, "too many parts", m, api.ErrFull)
		} else if _, e := wire.Put(m); e != api.OK {
			t.Errorf("%d parts: %v", n, e)
		}
	}
}

// P8.1: that a message is too much is told ahead of a number that may not be.
func TestPutFullFirst(t *testing.T) {
	for _, m := range fullMsgs() {
		for _, n := range numbers() {
			refusedPut(t, "too much, and wrong", changed(m, n, n.least-1), api.ErrFull)
			refusedPut(t, "too much, and wrong", changed(m, n, n.most+1), api.ErrFull)
			refusedPut(t, "too much, and far", changed(m, n, 1<<32), api.ErrFull)
		}
	}
	for _, m := range fullest() {
		refusedPut(t, "just not too much, and wrong", changed(m, numbers()[0], 13), api.ErrArg)
	}
}

// P8.1: of each message, formed or not, how many bytes it would have.
func TestSize(t *testing.T) {
	for _, m := range slices.Concat(formedMsgs(), wrongMsgs(), farMsgs(), fullMsgs(), []api.Msg{{}}) {
		if got := wire.Size(m); got != len(bytesOf(m)) {
			t.Errorf("%v: %d bytes", brief(m), got)
		}
	}
}

// P8.1: lengths and numbers of parts at which one byte more tells them.
func TestSizeBorders(t *testing.T) {
	for _, border := range []int{1 << 7, 1 << 14, 1 << 21} {
		for n := border - 2; n < border+2; n++ {
			b := make([]byte, n)
			for _, m := range []api.Msg{{Body: b}, {Parts: [][]byte{b}}, {Parts: [][]byte{{1}, b, nil}}, {Body: b, Parts: [][]byte{b, b}}, {Parts: make([][]byte, n)}} {
				if got := wire.Size(m); got != len(bytesOf(m)) {
					t.Errorf("%v: %d bytes", brief(m), got)
				}
			}
		}
	}
	if got := wire.Size(api.Msg{}); got != bare {
		t.Errorf("nothing: %d bytes", got)
	}
}

// P8.3: what is put is got.
func TestPutIsGot(t *testing.T) {
	for _, m := range formedMsgs() {
		b, _ := wire.Put(m)
		if got, e := wire.Get(b); e != api.OK || !samples.SameMsg(got, m) {
			t.Errorf("%v is got as %v, %v", brief(m), brief(got), e)
		}
		if len(b) != wire.Size(m) {
			t.Errorf("%v: %d bytes, and Size tells %d", brief(m), len(b), wire.Size(m))
		}
	}
}

// P8.3: no two messages have the same bytes.
func TestPutTellsApart(t *testing.T) {
	seen := map[string]api.Msg{}
	r := chance()
	text := samples.Text(r, 4)
	for _, kind := range []int{1, 2} {
		for _, from := range []int{0, 1, 2} {
			for _, hash := range []api.Hash{{}, {31: 1}, {31: 2}} {
				for _, body := range [][]byte{nil, {0}, {1}, {0, 0}, {1, 0}, text} {
					for _, l := range [][][]byte{nil, {nil}, {{0}}, {nil, nil}, {{1}, nil}, {nil, {1}}, {{0, 1}}, {text}} {
						m := api.Msg{Kind: kind, From: from, Slot: from, Hash: hash, Body: body, Parts: l}
						b, e := wire.Put(m)
						if other, there := seen[string(b)]; there || e != api.OK {
							t.Errorf("%v is put as %v was, %v", m, other, e)
						}
						seen[string(b)] = m
					}
				}
			}
		}
	}
}
