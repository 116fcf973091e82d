package samples_test

import (
	"math/rand/v2"
	"testing"

	"consistory/api"
	"consistory/samples"
)

// A request has the client and the Seq that were asked for, an op of its client's, and no signature.
func TestReqOf(t *testing.T) {
	for client := range 6 {
		for seq := 1; seq <= 8; seq++ {
			r := samples.ReqOf(client, seq)
			if r.Client != client || r.Seq != seq || r.Op != samples.OpOf(client) || len(r.Sig) > 0 {
				t.Errorf("client %d's %d is %v", client, seq, r)
			}
		}
	}
}

// Requests that are formed are the same again from the same source; there is one of each client, of each Seq and of each op, with signatures from none to the longest, of which none is another's memory.
func TestFormedReqs(t *testing.T) {
	l := samples.FormedReqs(rand.New(rand.NewPCG(1, 2)))
	if !samples.SameReqs(l, samples.FormedReqs(rand.New(rand.NewPCG(1, 2)))) {
		t.Error("they are others")
	}
	clients, seqs, ops, lengths := map[int]int{}, map[int]int{}, map[api.Op]int{}, map[int]int{}
	var sigs [][]byte
	for _, r := range l {
		clients[r.Client]++
		seqs[r.Seq]++
		ops[r.Op]++
		lengths[len(r.Sig)]++
		sigs = append(sigs, r.Sig)
	}
	if !samples.Apart(sigs) {
		t.Error("signatures share memory")
	}
	for client := range 6 {
		if clients[client] == 0 {
			t.Error("there is none of client", client)
		}
	}
	for seq := 1; seq <= 8; seq++ {
		if seqs[seq] == 0 {
			t.Error("there is none with the Seq", seq)
		}
	}
	for _, op := range samples.RightOps() {
		if ops[op] != 1 {
			t.Errorf("%v is there %d times", op, ops[op])
		}
	}
	if len(clients) != 6 || len(seqs) != 8 || lengths[0] == 0 || lengths[1000] == 0 {
		t.Errorf("clients %v, Seqs %v, lengths of signatures %v", clients, seqs, lengths)
	}
}

// known is a request without its signature, and how long that is.
type known struct {
	client, seq int
	op          api.Op
	sig         int
}

// No wrong request is there twice, far ones are told by no byte or by their signature's length, and each list is new.
func TestWrongReqs(t *testing.T) {
	seen := map[known]bool{}
	for _, r := range samples.FormedReqs(rand.New(rand.NewPCG(1, 2))) {
		seen[known{r.Client, r.Seq, r.Op, len(r.Sig)}] = true
	}
	beyond := func(x int) bool { return x < 0 || x > 255 }
	far := 0
	for i, r := range append(samples.WrongReqs(), samples.FarReqs()...) {
		key := known{r.Client, r.Seq, r.Op, len(r.Sig)}
		if seen[key] {
			t.Errorf("%v is there twice, or right", key)
		}
		seen[key] = true
		told := !beyond(r.Client) && !beyond(r.Seq) && !beyond(r.Op.Kind) && !beyond(r.Op.Key) && len(r.Sig) <= 1000
		if told != (i < len(samples.WrongReqs())) {
			t.Errorf("%v is in the other list", key)
		}
		if !told {
			far++
		}
	}
	if far != len(samples.FarReqs()) {
		t.Errorf("%d are far ones", far)
	}
	for _, list := range []func() []api.Req{samples.WrongReqs, samples.FarReqs} {
		first := list()[0]
		clear(list())
		if !samples.SameReq(list()[0], first) {
			t.Error("a list isn't new")
		}
	}
}

// Requests are one if all of them is, and lists if they have the same ones; what there is nothing of may be nil.
func TestSameReq(t *testing.T) {
	full := func() api.Req {
		return api.Req{Client: 1, Seq: 2, Op: api.Op{Kind: 3, Key: 4, A: 5, B: 6}, Sig: []byte{7, 8}}
	}
	bare := samples.ReqOf(1, 2)
	bare.Sig = []byte{}
	if !samples.SameReq(full(), full()) || !samples.SameReq(bare, samples.ReqOf(1, 2)) || !samples.SameReqs(nil, []api.Req{}) {
		t.Error("one request is two")
	}
	l := make([]api.Req, 8)
	for i := range l {
		l[i] = full()
	}
	l[0].Client, l[1].Seq, l[2].Op.Kind, l[3].Op.Key, l[4].Op.A, l[5].Op.B = 2, 3, 4, 5, 6, 7
	l[6].Sig[1], l[7].Sig = 9, l[7].Sig[:1]
	for i, r := range l {
		if samples.SameReq(r, full()) || samples.SameReq(full(), r) || samples.SameReqs([]api.Req{full(), r}, []api.Req{full(), full()}) {
			t.Errorf("request %d is the full one", i)
		}
		if !samples.SameReqs(l[:i+1], l[:i+1]) || samples.SameReqs(l[:i+1], l[:i]) {
			t.Errorf("lists of %d: whether they are the same", i+1)
		}
	}
}
