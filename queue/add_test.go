package queue_test

import (
	"slices"
	"testing"

	"consistory/api"
	"consistory/queue"
	"consistory/samples"
)

// P16.1: in a new queue nothing waits.
func TestNew(t *testing.T) {
	q := queue.New()
	if q == nil {
		t.Fatal("it is nil")
	}
	holds(t, "new", q, nil)
	takes(t, "new", q, behind(), nil)
	q.Drop(behind(18, 28))
	holds(t, "new, and dropped", q, nil)
}

// P16.1: each request that is formed waits as it came.
func TestAdd(t *testing.T) {
	for _, r := range slices.Concat(samples.FormedReqs(chance()), every()) {
		q := queueOf(t, []api.Req{r})
		holds(t, "one", q, []api.Req{r})
		takes(t, "one", q, behind(), []api.Req{r})
	}
}

// P16.1: what isn't formed doesn't wait, whoever waits already, and whether or not there is room.
func TestAddOfWrong(t *testing.T) {
	some := asked(52, 11, 1)
	empty, few, all := queue.New(), queueOf(t, some), full(t)
	for _, r := range append(samples.WrongReqs(), samples.FarReqs()...) {
		for _, q := range []*queue.Queue{empty, few, all} {
			if e := q.Add(r); e != api.ErrArg {
				t.Errorf("client %d's %d, %v, %d bytes signed: %v", r.Client, r.Seq, r.Op, len(r.Sig), e)
			}
		}
	}
	holds(t, "empty", empty, nil)
	holds(t, "few", few, some)
	holds(t, "full", all, every()[:most])
}

// P16.1: whoever comes waits behind all others, whatever the Seqs and the clients.
func TestAddBehind(t *testing.T) {
	for _, order := range samples.Orders([]int{1, 12, 14, 21, 53}) {
		q := queue.New()
		for i := range order {
			samples.Told(t, "in any order", api.OK, q.Add(asked(order...)[i]))
			holds(t, "in any order", q, asked(order[:i+1]...))
		}
	}
}

// P16.1: a client's request with a Seq that waits is too old, also if all else of it is another; the one that waits stays as it is.
func TestAddTwice(t *testing.T) {
	for _, r := range every() {
		other := samples.ReqOf(r.Client, r.Seq)
		other.Sig = make([]byte, 1000)
		ahead := asked((r.Client+1)%clients*10+r.Seq, r.Client*10+r.Seq%seqs+1)
		l := slices.Concat(ahead[:1], []api.Req{r}, ahead[1:])
		q := queueOf(t, l)
		samples.Told(t, "twice", api.ErrOld, q.Add(r), q.Add(other), q.Add(ahead[0]), q.Add(ahead[1]))
		holds(t, "twice", q, l)
	}
}

// P16.1: neither another client's Seq nor another Seq of the client stands in the way: of all there are, in any order, just those that wait are too old.
func TestAddApart(t *testing.T) {
	r := chance()
	for range 50 {
		l := every()
		r.Shuffle(len(l), func(i, j int) { l[i], l[j] = l[j], l[i] })
		q := queue.New()
		for i, each := range l[:most] {
			samples.Told(t, "apart", api.OK, q.Add(each))
			samples.Told(t, "a former one", api.ErrOld, q.Add(l[r.IntN(i+1)]))
		}
		holds(t, "apart", q, l[:most])
	}
}

// P16.1: twelve wait, and a thirteenth doesn't, whichever it is; one of those that wait is too old then too.
func TestAddFull(t *testing.T) {
	l := every()
	for shift := range len(l) {
		some := slices.Concat(l[shift:], l[:shift])
		q := queueOf(t, some[:most-1])
		for _, r := range some[:most-1] {
			samples.Told(t, "eleven wait", api.ErrOld, q.Add(r))
		}
		samples.Told(t, "the twelfth", api.OK, q.Add(some[most-1]))
		for _, r := range some[:most] {
			samples.Told(t, "twelve wait, and this one", api.ErrOld, q.Add(r))
		}
		for _, r := range some[most:] {
			samples.Told(t, "a thirteenth", api.ErrFull, q.Add(r))
		}
		holds(t, "full", q, some[:most])
	}
}

// P16.1: what a batch has waits, so that it is too old, and takes its room.
func TestAddOfTaken(t *testing.T) {
	q := full(t)
	for _, r := range q.Batch(behind()) {
		samples.Told(t, "taken", api.ErrOld, q.Add(r))
	}
	samples.Told(t, "one more", api.ErrFull, q.Add(one(5, 1)))
	holds(t, "full", q, every()[:most])
}

// P16.1, P16.2: where some are dropped there is room for as many others; what was dropped may wait again, behind all others.
func TestAddOfDropped(t *testing.T) {
	q := full(t) // the administrator's eight, and client 1's first four
	q.Drop(behind(12))
	left := slices.Concat(every()[:seqs], asked(13, 14))
	holds(t, "two are dropped", q, left)
	samples.Told(t, "one of those that are left", api.ErrOld, q.Add(one(0, 1)), q.Add(one(1, 3)))
	samples.Told(t, "two more", api.OK, q.Add(one(1, 2)), q.Add(one(5, 5)))
	samples.Told(t, "a third", api.ErrFull, q.Add(one(1, 1)))
	samples.Told(t, "those two again", api.ErrOld, q.Add(one(1, 2)), q.Add(one(5, 5)))
	holds(t, "full again", q, append(left, asked(12, 55)...))
}
