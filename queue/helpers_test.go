package queue_test

import (
	"math/rand/v2"
	"testing"

	"consistory/api"
	"consistory/queue"
	"consistory/samples"
)

const (
	clients = 6  // clients, the administrator among them
	seqs    = 8  // requests of a client
	most    = 12 // requests that wait
	batch   = 4  // requests of a batch
)

// one is a client's request, of which no other one has the op, or the signature.
func one(client, seq int) api.Req {
	r := samples.ReqOf(client, seq)
	r.Op.A = int64(10*client + seq)
	r.Sig = []byte{byte(client), byte(seq), 7}
	return r
}

// asked are requests, each told by two digits: whose it is, and its Seq.
func asked(digits ...int) []api.Req {
	var l []api.Req
	for _, d := range digits {
		l = append(l, one(d/10, d%10))
	}
	return l
}

// behind is each client's last reply, told by two digits where there is one: whose it is, and its Seq.
func behind(digits ...int) [clients]api.Reply {
	var last [clients]api.Reply
	for client := range last {
		last[client].Client = client
	}
	for _, d := range digits {
		last[d/10] = api.Reply{Client: d / 10, Seq: d % 10, Slot: 3, Res: api.Res{OK: true, N: int64(d)}}
	}
	return last
}

// around are replies of which the client's own has that Seq, and the other clients' have one that is another, or the same.
func around(client, seq int) [][clients]api.Reply {
	var l [][clients]api.Reply
	for _, others := range []int{0, 4, seq, 1 << 40, -1} {
		var last [clients]api.Reply
		for i := range last {
			last[i].Seq = others
		}
		last[client].Seq = seq
		l = append(l, last)
	}
	return l
}

// strange are replies with those Seqs, of which all else is x.
func strange(x int, digits ...int) [clients]api.Reply {
	last := behind(digits...)
	for client := range last {
		last[client] = api.Reply{Client: x, Seq: last[client].Seq, Slot: x, Res: api.Res{OK: x%2 == 0, N: int64(x)}}
	}
	return last
}

// farSeqs are Seqs that a request may have, just may not have, and that are far beyond.
func farSeqs() []int {
	return append(samples.Numbers(), 3, 4, 5, 6, 7, 8, 9, 256+5, 1<<32+5)
}

// every are all requests that there may be, client by client.
func every() []api.Req {
	var l []api.Req
	for client := range clients {
		for seq := 1; seq <= seqs; seq++ {
			l = append(l, one(client, seq))
		}
	}
	return l
}

// queueOf is a queue in which those wait.
func queueOf(t *testing.T, l []api.Req) *queue.Queue {
	t.Helper()
	q := queue.New()
	for _, r := range l {
		samples.Told(t, "a request", api.OK, q.Add(r))
	}
	return q
}

// full is a queue in which as many wait as may.
func full(t *testing.T) *queue.Queue {
	t.Helper()
	return queueOf(t, every()[:most])
}

// holds checks which ones wait.
func holds(t *testing.T, what string, q *queue.Queue, want []api.Req) {
	t.Helper()
	if l, n := q.All(), q.Len(); !samples.SameReqs(l, want) || n != len(want) {
		t.Errorf("%s: there wait %d, %v; want %v", what, n, l, want)
	}
}

// takes checks what a batch has, that it is told again, and that all go on waiting.
func takes(t *testing.T, what string, q *queue.Queue, last [clients]api.Reply, want []api.Req) {
	t.Helper()
	all := q.All()
	for range 2 {
		if l := q.Batch(last); !samples.SameReqs(l, want) {
			t.Errorf("%s: of %v a batch has %v; want %v", what, all, l, want)
		}
	}
	holds(t, what, q, all)
}

// chance is a source of numbers that is always the same.
func chance() *rand.Rand {
	return rand.New(rand.NewPCG(16, 3))
}
