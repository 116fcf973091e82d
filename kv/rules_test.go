package kv_test

import (
	"bytes"
	"slices"
	"sync"
	"testing"

	"consistory/api"
	"consistory/kv"
	"consistory/samples"
)

// R3: nil and nothing are one.
func TestNilIsNothing(t *testing.T) {
	refusedGet(t, "nil", nil, api.ErrShort)
	refusedGet(t, "nothing", []byte{}, api.ErrShort)
}

// R4: bytes that are handed in aren't changed, spare room included, and what is behind them tells nothing.
func TestBytesStay(t *testing.T) {
	same := func(c, d values) bool { return c == d }
	b := samples.CellsBytes(samples.Among(allOf, samples.Ends()))
	samples.Leaves(t, kv.Get, same, nil, b[:1], b[:5], b, append(slices.Clone(b), 0), []byte{0}, []byte{1, 3, 5}, []byte{1, 16, 5}, []byte{17})
}

// R4: bytes that are answered are new memory, spare room included: whoever writes into them changes no values and no other answer.
func TestPutIsNew(t *testing.T) {
	for _, c := range []values{{}, only(3, value(5)), samples.Among(allOf, samples.Ends())} {
		want := samples.CellsBytes(c)
		first, second := kv.Put(c), kv.Put(c)
		samples.Spoil(first)
		if !bytes.Equal(second, want) || !bytes.Equal(kv.Put(c), want) {
			t.Errorf("the bytes of %v change with an earlier answer", c)
		}
	}
}

// R5: an answer hangs on the arguments alone, not on the calls ahead of it or beside it, an error among them.
func TestSameAgain(t *testing.T) {
	r := chance()
	type call struct {
		c, behind values
		op        api.Op
		res       api.Res
	}
	var l []call
	for range 300 {
		c, op := samples.AnyCells(r), anyOp(r)
		s := modelOf(c)
		res := s.do(op)
		l = append(l, call{c, s.values(), op, res})
	}
	var w sync.WaitGroup
	for range 4 {
		w.Go(func() {
			for _, x := range slices.Backward(l) {
				refusedGet(t, "too many", []byte{17}, api.ErrRange)
				comes(t, x.c, x.op, x.behind, x.res)
				putAndGot(t, x.c, samples.CellsBytes(x.c))
			}
		})
	}
	w.Wait()
}

// R1: every call ends and none panics, at all arguments.
func TestNeverPanics(t *testing.T) {
	r := chance()
	all := samples.Numbers()
	some := func() int { return all[r.IntN(len(all))] }
	for range 5000 {
		c := samples.Strayed(samples.AnyCells(r))
		op := anyOp(r)
		kv.Do(c, op)
		kv.Do(c, api.Op{Kind: some(), Key: some(), A: int64(some()), B: int64(some())})
		kv.Do(c, api.Op{Kind: op.Kind, Key: some(), A: op.A})
		kv.Do(c, api.Op{Kind: some(), Key: op.Key, A: op.A})
		kv.Put(c)
		kv.Get(samples.Text(r, r.IntN(60)))
		kv.Get(append([]byte{byte(r.IntN(18))}, samples.Text(r, r.IntN(200))...))
	}
}
