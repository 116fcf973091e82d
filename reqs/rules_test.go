package reqs_test

import (
	"bytes"
	"slices"
	"sync"
	"testing"

	"consistory/api"
	"consistory/keys"
	"consistory/reqs"
	"consistory/samples"
)

// R3: nil and nothing are one, as a signature, as a list and as bytes.
func TestNilIsNothing(t *testing.T) {
	r := put(1, 1)
	before, _ := reqs.Put(r)
	r.Sig = []byte{}
	if b, e := reqs.Put(r); e != api.OK || !bytes.Equal(b, before) || !bytes.Equal(reqs.Text(r), textOf(r)) {
		t.Errorf("no signature: % x, %v", b, e)
	}
	for _, l := range [][]api.Req{nil, {}} {
		if _, e := reqs.PutBatch(l); e != api.ErrArg {
			t.Error("no requests:", e)
		}
	}
	for _, b := range [][]byte{nil, {}} {
		refusedGet(t, "no bytes", b, api.ErrShort)
		refusedBatch(t, "no bytes", b, api.ErrShort)
	}
	if e := reqs.Check(api.Keys{Roots: []api.Hash{}}, r); e != api.ErrWho {
		t.Error("no roots:", e)
	}
}

// R4: requests and keys that are handed in aren't changed, spare room included.
func TestRequestsStay(t *testing.T) {
	master := samples.Hash(chance())
	k := keys.Table(master)
	roots := slices.Clone(k.Roots)
	r := own(t, master, put(1, 1))
	whole, view := samples.Roomy(r.Sig)
	before := slices.Clone(whole)
	r.Sig = view
	l := make([]api.Req, 2, 5)
	l[0], l[1] = r, put(2, 1)
	reqs.Text(r)
	reqs.Put(r)
	reqs.PutBatch(l)
	reqs.Check(k, r)
	if !bytes.Equal(whole, before) {
		t.Error("a signature is changed")
	}
	if !samples.SameReqs(l, []api.Req{r, put(2, 1)}) || !isZero(l[:5][2]) || !isZero(l[:5][4]) {
		t.Error("a list is changed")
	}
	if !slices.Equal(k.Roots, roots) {
		t.Error("the roots are changed")
	}
}

// R4: bytes that are handed in aren't changed, spare room included, and what is behind them tells nothing.
func TestBytesStay(t *testing.T) {
	master := samples.Hash(chance())
	k := keys.Table(master)
	one := bytesOf(own(t, master, put(1, 1)))
	batch := bytesOfBatch([]api.Req{own(t, master, put(1, 1)), own(t, master, put(0, 1))})
	for _, b := range [][]byte{nil, one[:5], one, append(slices.Clone(one), 0), batch[:700], batch, append(slices.Clone(batch), 0)} {
		whole, view := samples.Roomy(b)
		before := slices.Clone(whole)
		r, e := reqs.Get(view)
		l, f := reqs.GetBatch(view)
		m, g := reqs.CheckBatch(k, view)
		if !bytes.Equal(whole, before) {
			t.Errorf("%d bytes are changed", len(b))
		}
		s, e2 := reqs.Get(b)
		l2, f2 := reqs.GetBatch(b)
		m2, g2 := reqs.CheckBatch(k, b)
		if e != e2 || f != f2 || g != g2 || !samples.SameReq(r, s) || !samples.SameReqs(l, l2) || !samples.SameReqs(m, m2) {
			t.Errorf("%d bytes are another thing with room behind", len(b))
		}
	}
}

// R4: what is got isn't kept as it came in: bytes that are spoilt later change no request.
func TestGotIsNew(t *testing.T) {
	r := put(1, 1)
	r.Sig = []byte{1, 2, 3, 4}
	b := bytesOf(r)
	got, _ := reqs.Get(b)
	again, _ := reqs.Get(b)
	samples.Spoil(again.Sig)
	samples.Spoil(b)
	if !samples.SameReq(got, r) {
		t.Errorf("%v; want %v", got, r)
	}
	l := []api.Req{r, put(2, 1), r}
	l[1].Sig, l[2].Seq, l[2].Sig = []byte{7, 8}, 2, []byte{9}
	b = bytesOfBatch(l)
	back, _ := reqs.GetBatch(b)
	other, _ := reqs.GetBatch(b)
	for i := range other {
		samples.Spoil(other[i].Sig)
		other[i] = api.Req{}
	}
	clear(other[:cap(other)])
	samples.Spoil(b)
	if !samples.SameReqs(back, l) {
		t.Errorf("%v; want %v", back, l)
	}
	// No request of a list has another one's memory.
	samples.Spoil(back[0].Sig)
	if !samples.SameReqs(back[1:], l[1:]) {
		t.Error("a request changes with the one ahead of it")
	}
	samples.Spoil(back[1].Sig)
	if !samples.SameReq(back[2], l[2]) {
		t.Error("a request changes with the one ahead of it")
	}
}

// R4: what CheckBatch answers is new memory too.
func TestCheckedIsNew(t *testing.T) {
	master := samples.Hash(chance())
	k := keys.Table(master)
	l := []api.Req{own(t, master, put(1, 1)), own(t, master, put(2, 1))}
	b := bytesOfBatch(l)
	back, _ := reqs.CheckBatch(k, b)
	other, _ := reqs.CheckBatch(k, b)
	samples.Spoil(other[0].Sig)
	clear(other[:cap(other)])
	samples.Spoil(b)
	if !samples.SameReqs(back, l) {
		t.Error("it changes with an earlier answer, or the bytes")
	}
}

// R4: bytes that are put are new memory.
func TestPutIsNew(t *testing.T) {
	r := put(1, 1)
	r.Sig = []byte{1, 2, 3, 4}
	l := []api.Req{r, put(2, 1)}
	text, one, batch := textOf(r), bytesOf(r), bytesOfBatch(l)
	for range 2 {
		t1, p1, b1 := reqs.Text(r), first(reqs.Put(r)), first(reqs.PutBatch(l))
		t2, p2, b2 := reqs.Text(r), first(reqs.Put(r)), first(reqs.PutBatch(l))
		samples.Spoil(t1)
		samples.Spoil(p1)
		samples.Spoil(b1)
		if !bytes.Equal(t2, text) || !bytes.Equal(p2, one) || !bytes.Equal(b2, batch) || !bytes.Equal(r.Sig, []byte{1, 2, 3, 4}) {
			t.Error("they change with earlier ones")
		}
	}
	b := first(reqs.Put(r))
	samples.Spoil(r.Sig)
	if !bytes.Equal(b, one) {
		t.Error("they change with the signature")
	}
}

// first is what is answered beside an error.
func first(b []byte, _ api.Errno) []byte {
	return b
}

// R5: an answer hangs on the arguments alone, not on the calls ahead of it or beside it.
func TestSameAgain(t *testing.T) {
	master := samples.Hash(chance())
	k := keys.Table(master)
	right := own(t, master, put(1, 1))
	all := samples.FormedReqs(chance())
	batches := formedBatches()
	var w sync.WaitGroup
	for range 4 {
		w.Go(func() {
			for _, r := range slices.Backward(all) {
				b, e := reqs.Put(r)
				if e != api.OK || !bytes.Equal(b, bytesOf(r)) || !bytes.Equal(reqs.Text(r), textOf(r)) {
					t.Errorf("%v is put otherwise", r)
				}
			}
			for _, l := range batches {
				if got, e := reqs.GetBatch(bytesOfBatch(l)); e != api.OK || !samples.SameReqs(got, l) {
					t.Errorf("%v is got otherwise", l)
				}
				refusedGet(t, "nothing", nil, api.ErrShort)
			}
			for range 5 {
				if e := reqs.Check(k, right); e != api.OK {
					t.Error("a right one isn't right any more:", e)
				}
				if e := reqs.Check(k, put(1, 1)); e != api.ErrForm {
					t.Error("an unsigned one:", e)
				}
			}
		})
	}
	w.Wait()
}

// R1: every call ends and none panics, at all arguments.
func TestNeverPanics(t *testing.T) {
	r := chance()
	numbers := samples.Numbers()
	some := func() int { return numbers[r.IntN(len(numbers))] }
	k := keys.Table(samples.Hash(r))
	for range 3000 {
		q := api.Req{Client: some(), Seq: some(), Op: api.Op{Kind: some(), Key: some(), A: int64(some()), B: int64(some())}, Sig: samples.Text(r, r.IntN(1100))}
		for _, s := range []api.Req{q, {Client: r.IntN(7), Seq: r.IntN(9), Op: q.Op, Sig: q.Sig}, {Client: r.IntN(7), Seq: r.IntN(9), Op: api.Op{Kind: r.IntN(7)}}} {
			reqs.Right(s.Client, s.Op)
			reqs.Text(s)
			reqs.Put(s)
			reqs.PutBatch([]api.Req{s, q})
			reqs.Check(api.Keys{Roots: k.Roots[:r.IntN(7)]}, s)
			b := bytesOf(s)
			reqs.Get(b[:r.IntN(len(b)+1)])
			reqs.CheckBatch(k, samples.CountAnd(uint64(r.IntN(6)), b, samples.Text(r, r.IntN(50))))
		}
		b := samples.Text(r, r.IntN(60))
		reqs.Get(b)
		reqs.GetBatch(b)
		reqs.GetBatch(append([]byte{byte(r.IntN(6)), byte(r.IntN(60))}, b...))
	}
}
