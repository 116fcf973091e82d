package wire_test

import (
	"bytes"
	"slices"
	"sync"
	"testing"

	"consistory/api"
	"consistory/samples"
	"consistory/wire"
)

// R3: nil and nothing are one, as a body, as a part, as parts and as bytes.
func TestNilIsNothing(t *testing.T) {
	for _, m := range []api.Msg{vote(), {Kind: 1, Parts: [][]byte{nil, nil}}} {
		n := m
		n.Body, n.Parts = []byte{}, slices.Clone(m.Parts)
		for i := range n.Parts {
			n.Parts[i] = []byte{}
		}
		if m.Parts == nil {
			n.Parts = [][]byte{}
		}
		b, e := wire.Put(n)
		if e != api.OK || !bytes.Equal(b, bytesOf(m)) || wire.Size(n) != wire.Size(m) {
			t.Errorf("%v: % x, %v", brief(m), b, e)
		}
	}
	refusedGet(t, "nil", nil, api.ErrShort)
	refusedGet(t, "nothing", []byte{}, api.ErrShort)
}

// R4: a message that is handed in isn't changed, spare room included.
func TestMessageStays(t *testing.T) {
	for _, m := range []api.Msg{withBody(20, 3, 0, 150), changed(withBody(20, 3), numbers()[0], 13), withBody(room, 5), withBody(1, make([]int, 17)...)} {
		n, stays := samples.RoomyMsg(m)
		b, e := wire.Put(n)
		c, f := wire.Put(m)
		if e != f || !bytes.Equal(b, c) || wire.Size(n) != len(bytesOf(m)) {
			t.Errorf("%v is another with room behind: %v, %v", brief(m), e, f)
		}
		if !stays() {
			t.Errorf("%v is changed", brief(m))
		}
	}
}

// R4: bytes that are handed in aren't changed, spare room included, and what is behind them tells nothing.
func TestBytesStay(t *testing.T) {
	b := bytesOf(withBody(20, 3, 0, 150))
	samples.Leaves(t, wire.Get, samples.SameMsg, nil, b[:5], b[:start], b[:start+10], b, append(slices.Clone(b), 0), bytesOf(wrongMsgs()[0]), make([]byte, room+1))
}

// R4: what is got is new memory: it shares none with the bytes, with an earlier answer, or among its own lists.
func TestGotIsNew(t *testing.T) {
	m := withBody(20, 3, 40, 1, 7)
	b := bytesOf(m)
	got, _ := wire.Get(b)
	again, _ := wire.Get(b)
	samples.Spoil(b)
	samples.SpoilMsg(again)
	if !samples.SameMsg(got, m) {
		t.Error("it changes with the bytes, or a later answer")
	}
	if !samples.ApartMsg(got) {
		t.Error("its lists change with each other")
	}
}

// R4: bytes that are put are new memory.
func TestPutIsNew(t *testing.T) {
	m := withBody(20, 3, 40)
	want := bytesOf(m)
	first, _ := wire.Put(m)
	second, _ := wire.Put(m)
	samples.Spoil(first)
	if !bytes.Equal(second, want) || !bytes.Equal(bytesOf(m), want) {
		t.Error("they change with earlier ones, or the message with them")
	}
	samples.SpoilMsg(m)
	if !bytes.Equal(second, want) {
		t.Error("they change with the message")
	}
}

// R5: an answer hangs on the arguments alone, not on the calls ahead of it or beside it, an error among them.
func TestSameAgain(t *testing.T) {
	formed, wrong := formedMsgs(), wrongMsgs()
	var w sync.WaitGroup
	for range 4 {
		w.Go(func() {
			for i, m := range slices.Backward(formed) {
				want := bytesOf(m)
				if b, e := wire.Put(m); e != api.OK || !bytes.Equal(b, want) || wire.Size(m) != len(want) {
					t.Errorf("%v is put otherwise", brief(m))
				}
				refusedGet(t, "cut", want[:len(want)-1], api.ErrShort)
				refusedGet(t, "not formed", bytesOf(wrong[i%len(wrong)]), api.ErrArg)
				if got, e := wire.Get(want); e != api.OK || !samples.SameMsg(got, m) {
					t.Errorf("%v is got otherwise", brief(m))
				}
			}
		})
	}
	w.Wait()
}

// R1: every call ends and none panics, at all arguments.
func TestNeverPanics(t *testing.T) {
	r := chance()
	for range 5000 {
		m := samples.WildMsg(r)
		wire.Size(m)
		wire.Put(m)
		m = samples.NearMsg(r)
		wire.Put(m)
		b := bytesOf(m)
		wire.Get(b)
		wire.Get(b[:r.IntN(len(b)+1)])
		wire.Get(append(b, samples.Text(r, r.IntN(5))...))
		wire.Get(samples.Text(r, r.IntN(80)))
		wire.Get(append(headOf(m), samples.Text(r, r.IntN(60))...))
	}
}
