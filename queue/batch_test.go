package queue_test

import (
	"slices"
	"testing"

	"consistory/api"
	"consistory/queue"
	"consistory/reqs"
	"consistory/samples"
)

// P16.2: the chapter's example.
func TestBatchExample(t *testing.T) {
	takes(t, "the example", queueOf(t, asked(11, 13, 12)), behind(), asked(11, 13))
}

// P16.2: batches written out by hand.
func TestBatchKnown(t *testing.T) {
	for _, c := range []struct {
		wait, last, want []int
	}{
		{[]int{11}, nil, []int{11}},
		{[]int{11}, []int{11}, nil},
		{[]int{18}, []int{17}, []int{18}},
		{[]int{13, 12, 11}, nil, []int{13}},
		{[]int{13, 12, 11}, []int{13}, nil},
		{[]int{13, 12, 11, 14}, []int{11}, []int{13, 14}},
		{[]int{11, 13, 12}, []int{11}, []int{13}},
		{[]int{11, 13, 12, 15, 14}, nil, []int{11, 13, 15}},
		{[]int{18, 11, 28, 21}, nil, []int{18, 28}},
		{[]int{12, 21, 11, 22, 13, 31}, nil, []int{12, 21, 22, 13}},
		{[]int{12, 21, 11, 22, 13, 31}, []int{12, 21}, []int{22, 13, 31}},
		{[]int{12, 21, 11, 22, 13, 31}, []int{18, 28, 38}, nil},
		{[]int{12, 21, 11, 22, 13, 31}, []int{8, 48, 58}, []int{12, 21, 22, 13}},
		{[]int{1, 51, 2, 52, 3}, nil, []int{1, 51, 2, 52}},
		{[]int{2, 1, 52, 51, 4, 3}, nil, []int{2, 52, 4}},
		{[]int{1, 2, 3, 4, 5, 6, 7, 8}, []int{2}, []int{3, 4, 5, 6}},
		{[]int{1, 2, 3, 4, 5, 6, 7, 8}, []int{6}, []int{7, 8}},
		{[]int{11, 21, 31, 41, 51, 1, 12, 22, 32, 42, 52, 2}, []int{11, 31, 51}, []int{21, 41, 1, 12}},
	} {
		takes(t, "by hand", queueOf(t, asked(c.wait...)), behind(c.last...), asked(c.want...))
	}
}

// P16.2: what is above its client's last reply is taken, how far above it may be; what isn't isn't, whoever the client is, and whatever the others' replies are.
func TestBatchSeqs(t *testing.T) {
	for _, r := range every() {
		q := queueOf(t, []api.Req{r})
		for _, seq := range farSeqs() {
			var want []api.Req
			if r.Seq > seq {
				want = []api.Req{r}
			}
			for _, last := range around(r.Client, seq) {
				takes(t, "one", q, last, want)
			}
		}
	}
}

// P16.2: of the replies just the Seqs count: neither whose they say that they are, nor the slots, nor what was answered.
func TestBatchBySeqs(t *testing.T) {
	q := queueOf(t, asked(11, 21, 22, 12, 31, 23))
	for _, x := range samples.Numbers() {
		takes(t, "replies of nobody", q, strange(x, 21), asked(11, 22, 12, 31))
	}
}

// P16.2: of one client each order of five: from its last reply on those are taken that are above all that came ahead, which the ones below are too that aren't taken.
func TestBatchRising(t *testing.T) {
	for _, client := range []int{0, 1, 5} {
		for _, order := range samples.Orders([]int{1, 2, 3, 4, 5}) {
			var l []api.Req
			for _, seq := range order {
				l = append(l, one(client, seq))
			}
			q := queueOf(t, l)
			for last := range 7 {
				var want []api.Req
				for i, seq := range order {
					if seq > last && seq == slices.Max(order[:i+1]) {
						want = append(want, l[i])
					}
				}
				takes(t, "of one client", q, behind(10*client+last), want[:min(len(want), batch)])
			}
		}
	}
}

// P16.2: four are taken at most, the first ones that may be; those that are left out take nobody's place.
func TestBatchMost(t *testing.T) {
	l := asked(11, 21, 31, 41, 51, 12, 22, 32, 42, 52)
	for n := range len(l) + 1 {
		takes(t, "of so many", queueOf(t, l[:n]), behind(), l[:min(n, batch)])
		takes(t, "of fewer clients", queueOf(t, l[:n]), behind(18, 28, 38, 48), append(slices.Clone(l[min(n, 4):min(n, 5)]), l[min(n, 9):n]...))
	}
	takes(t, "behind eight that aren't taken", queueOf(t, append(every()[seqs:2*seqs], asked(21, 1, 31, 22)...)), behind(18), asked(21, 1, 31, 22))
	takes(t, "behind a greater one", queueOf(t, asked(18, 11, 12, 13, 14, 15, 16, 17, 58, 51, 41)), behind(), asked(18, 58, 41))
}

// P16.2: no client's request stands in another one's way, and what isn't taken neither.
func TestBatchApart(t *testing.T) {
	for a := range clients {
		for b := range clients {
			if a == b {
				continue
			}
			q := queueOf(t, []api.Req{one(a, 8), one(b, 1), one(a, 7), one(b, 2)})
			takes(t, "two clients", q, behind(), []api.Req{one(a, 8), one(b, 1), one(b, 2)})
			takes(t, "the first one is done", q, behind(10*a+8), []api.Req{one(b, 1), one(b, 2)})
			takes(t, "its lesser one is done", q, behind(10*a+7, 10*b+1), []api.Req{one(a, 8), one(b, 2)})
		}
	}
}

// P16.2: batches one behind the other, as their requests are done and dropped, bring all that may be done, and nothing twice.
func TestBatchesInOrder(t *testing.T) {
	q := queueOf(t, asked(11, 13, 12, 21, 31, 22, 1, 14, 41, 51, 23, 2))
	last := behind()
	for _, want := range [][]int{{11, 13, 21, 31}, {22, 1, 14, 41}, {51, 23, 2}, nil} {
		takes(t, "the next one", q, last, asked(want...))
		for _, d := range want {
			last[d/10].Seq = d % 10
		}
		takes(t, "before they are dropped", q, last, q.Batch(last))
		q.Drop(last)
	}
	holds(t, "all is done, or too late", q, nil)
}

// P16.3: of each queue a batch has nothing, or layer 7 puts it.
func TestBatchIsFormed(t *testing.T) {
	r := chance()
	sizes := map[int]int{}
	for range 5000 {
		q := queue.New()
		for range r.IntN(2 * most) {
			q.Add(one(r.IntN(clients), 1+r.IntN(seqs)))
		}
		var last [clients]api.Reply
		for client := range last {
			last[client].Seq = r.IntN(seqs + 1)
		}
		l := q.Batch(last)
		sizes[len(l)]++
		if len(l) == 0 {
			continue
		}
		b, e := reqs.PutBatch(l)
		if got, f := reqs.GetBatch(b); e != api.OK || f != api.OK || !samples.SameReqs(got, l) {
			t.Errorf("%v of %v isn't formed: %v, %v", l, q.All(), e, f)
		}
	}
	for n := range batch + 1 {
		if sizes[n] < 50 {
			t.Errorf("just %d batches of %d", sizes[n], n)
		}
	}
	if len(sizes) != batch+1 {
		t.Error(sizes)
	}
}
