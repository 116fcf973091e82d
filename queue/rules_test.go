package queue_test

import (
	"bytes"
	"slices"
	"sync"
	"testing"

	"consistory/api"
	"consistory/queue"
	"consistory/samples"
)

// P16.3: of a nil queue nothing is told, and that it is nil is told of any request.
func TestNilQueue(t *testing.T) {
	var q *queue.Queue
	for _, r := range slices.Concat(every(), samples.WrongReqs(), samples.FarReqs()) {
		samples.Told(t, "a nil queue", api.ErrNil, q.Add(r))
	}
	q.Drop(behind())
	q.Drop(behind(18))
	holds(t, "a nil queue", q, nil)
	takes(t, "a nil queue", q, behind(), nil)
}

// R2: that one isn't formed is told ahead of that it waits, and both ahead of that there is no room; what is refused changes nothing.
func TestOrderOfErrors(t *testing.T) {
	few, all := queueOf(t, every()[:3]), full(t)
	wrong := one(0, 1)
	wrong.Op.B = 1
	unsigned := one(0, 1)
	unsigned.Sig = make([]byte, 1001)
	for _, r := range []api.Req{wrong, unsigned} {
		samples.Told(t, "not formed, and waiting", api.ErrArg, few.Add(r), all.Add(r))
	}
	samples.Told(t, "waiting", api.ErrOld, few.Add(one(0, 1)), all.Add(one(0, 1)), all.Add(one(1, 4)))
	samples.Told(t, "no room", api.ErrFull, all.Add(one(1, 5)), all.Add(one(5, 8)))
	holds(t, "few", few, every()[:3])
	holds(t, "full", all, every()[:most])
}

// R3: no signature is one with nil.
func TestNilIsNothing(t *testing.T) {
	for _, sig := range [][]byte{nil, {}} {
		r := one(1, 1)
		r.Sig = sig
		q := queueOf(t, []api.Req{r})
		holds(t, "unsigned", q, []api.Req{r})
		takes(t, "unsigned", q, behind(), []api.Req{r})
	}
}

// R4: a request that is handed in isn't changed, spare room included, whatever is answered, and isn't kept.
func TestRequestStays(t *testing.T) {
	q := queueOf(t, asked(21))
	want := asked(21, 11, 12)
	want[2].Sig = nil
	for _, r := range append(want[1:], one(2, 1), api.Req{Client: 9, Sig: []byte{1, 2}}) {
		whole, view := samples.Roomy(r.Sig)
		before := bytes.Clone(whole)
		roomy := r
		roomy.Sig = view
		q.Add(roomy)
		q.Batch(behind())
		q.All()
		if !bytes.Equal(whole, before) || !samples.SameReq(roomy, r) {
			t.Errorf("%v is changed", r)
		}
		samples.Spoil(view)
	}
	holds(t, "what was handed in is spoilt", q, want)
	takes(t, "what was handed in is spoilt", q, behind(), want)
}

// R4: replies that are handed in are as they were.
func TestRepliesStay(t *testing.T) {
	q := queueOf(t, asked(11, 13, 12, 21))
	last := behind(11)
	q.Batch(last)
	q.Drop(last)
	if last != behind(11) {
		t.Error(last)
	}
}

// sigs are the signatures of l.
func sigs(l []api.Req) [][]byte {
	var all [][]byte
	for _, r := range l {
		all = append(all, r.Sig)
	}
	return all
}

// R4: what is answered is new memory, spare room included: whoever writes into it changes neither the queue nor another answer, and no two signatures share any.
func TestAnsweredIsNew(t *testing.T) {
	want := asked(11, 21, 31)
	shared := []byte{1, 2, 3, 4}
	want[0].Sig, want[1].Sig, want[2].Sig = shared, shared[:2], shared[2:]
	q := queueOf(t, want)
	answers := [][]api.Req{q.All(), q.Batch(behind()), q.All(), q.Batch(behind())}
	if !samples.Apart(sigs(slices.Concat(answers...))) {
		t.Error("signatures share memory")
	}
	for _, l := range answers {
		_ = append(l, one(5, 5))
		clear(l[:cap(l)])
	}
	for _, answer := range []func() []api.Req{q.All, func() []api.Req { return q.Batch(behind()) }} {
		first, second := answer(), answer()
		clear(first[:cap(first)])
		if !samples.SameReqs(second, want) {
			t.Errorf("%v change with another answer", second)
		}
	}
	holds(t, "what was answered is spoilt", q, want)
	takes(t, "what was answered is spoilt", q, behind(), want)
}

// R4: an answer stays as it was, whatever becomes of the queue.
func TestAnswersStay(t *testing.T) {
	want := asked(11, 12, 21)
	q := queueOf(t, want)
	all, next := q.All(), q.Batch(behind())
	q.Drop(behind(11, 28))
	samples.Told(t, "others", api.OK, q.Add(one(5, 1)), q.Add(one(1, 1)), q.Add(one(4, 1)))
	if !samples.SameReqs(all, want) || !samples.SameReqs(next, want) {
		t.Errorf("%v and %v; want %v", all, next, want)
	}
}

// R5: queues know nothing of each other, and answer the same again and again.
func TestQueuesApart(t *testing.T) {
	l := asked(31, 12, 53, 21, 11, 32, 1, 13)
	first, other := queueOf(t, l), queue.New()
	holds(t, "the other one", other, nil)
	samples.Told(t, "the other one", api.OK, other.Add(one(5, 3)), other.Add(one(1, 2)))
	other.Drop(behind(18, 28, 38))
	holds(t, "the other one", other, asked(53))
	for range 50 {
		holds(t, "the first one", first, l)
		takes(t, "the first one", first, behind(31), asked(12, 53, 21, 32))
	}
}

// R5: an answer hangs on what its own queue has been through, not on the calls to others beside it.
func TestSameAgain(t *testing.T) {
	var all sync.WaitGroup
	for range 4 {
		all.Go(func() {
			r := chance()
			count := map[api.Errno]int{}
			for range 20 {
				session(t, r, 40, clients, seqs, count)
			}
		})
	}
	all.Wait()
}

// R1: every call ends and none panics, at all arguments.
func TestNeverPanics(t *testing.T) {
	r := chance()
	all := samples.Numbers()
	some := func() int { return all[r.IntN(len(all))] }
	q := queue.New()
	var none *queue.Queue
	for range 5000 {
		var last [clients]api.Reply
		for client := range last {
			last[client] = api.Reply{Client: some(), Seq: some(), Slot: some(), Res: api.Res{N: int64(some())}}
		}
		wild := api.Req{Client: some(), Seq: some(), Op: api.Op{Kind: some(), Key: some(), A: int64(some()), B: int64(some())}, Sig: samples.Text(r, r.IntN(1100))}
		near := api.Req{Client: r.IntN(clients + 1), Seq: r.IntN(seqs + 2), Op: samples.OpOf(r.IntN(2)), Sig: wild.Sig}
		for _, each := range []*queue.Queue{q, none} {
			each.Add(wild)
			each.Add(near)
			each.Batch(last)
			each.All()
			if each.Len() > most {
				t.Fatalf("%d wait", each.Len())
			}
			if r.IntN(20) == 0 {
				each.Drop(last)
			}
		}
	}
}
