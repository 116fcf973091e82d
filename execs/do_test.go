package execs_test

import (
	"math"
	"slices"
	"testing"

	"consistory/api"
	"consistory/execs"
	"consistory/kv"
	"consistory/samples"
)

// P15.1: the first world has the view, right or not, its slots begin with 1, and each client's last reply is none yet.
func TestFirst(t *testing.T) {
	for _, v := range append(rightViews(), wrongViews()...) {
		var want api.World
		want.First, want.View, want.Was = 1, v, v
		for client := range clients {
			want.Last[client] = api.Reply{Client: client}
		}
		if w := execs.First(v); w != want {
			t.Errorf("%v: %v; want %v", v, w, want)
		}
	}
}

// P15.1: the chapter's example.
func TestDoExample(t *testing.T) {
	w := execs.First(api.View{Mask: 15})
	behind := in(w)
	behind.Cells[3], behind.Last[1] = value(5), answer(1, 1, 1, true, 0)
	comes(t, "the example", w, []api.Req{put(1, 1, 3, 5)}, behind, behind.Last[1])
}

// P15.1: batches one behind the other, written out by hand: each request is done on what those ahead of it left, what fails is answered too, and what was passed over is left out.
func TestDoKnown(t *testing.T) {
	w := execs.First(api.View{Num: 2, Mask: 15})
	behind := in(w)
	behind.Cells[3] = value(8)
	behind.Last = [clients]api.Reply{{}, answer(1, 2, 1, true, 7), answer(2, 1, 1, false, 8), answer(3, 1, 1, true, 8), {Client: 4}, answer(5, 7, 1, false, 0)}
	comes(t, "the first batch", w, []api.Req{
		put(1, 1, 3, 5),
		{Client: 1, Seq: 2, Op: api.Op{Kind: api.KAdd, Key: 3, A: 2}},
		{Client: 5, Seq: 7, Op: api.Op{Kind: api.KGet, Key: 4}},
		{Client: 4, Seq: 0, Op: api.Op{Kind: api.KDel, Key: 3}},
		{Client: 1, Seq: 2, Op: api.Op{Kind: api.KDel, Key: 3}},
		{Client: 5, Seq: 6, Op: api.Op{Kind: api.KDel, Key: 3}},
		{Client: 3, Seq: 1, Op: api.Op{Kind: api.KCas, Key: 3, A: 7, B: 8}},
		{Client: 2, Seq: 1, Op: api.Op{Kind: api.KCas, Key: 3, A: 7, B: 9}},
	}, behind, answer(1, 1, 1, true, 0), behind.Last[1], behind.Last[5], behind.Last[3], behind.Last[2])

	w, behind = behind, in(behind)
	behind.Cells[3], behind.Last[5] = api.Cell{}, answer(5, 8, 2, true, 8)
	comes(t, "the second batch", w, []api.Req{
		put(5, 7, 3, 1),
		{Client: 5, Seq: 8, Op: api.Op{Kind: api.KDel, Key: 3}},
		put(2, 1, 3, 1),
	}, behind, behind.Last[5])

	w, behind = behind, in(behind)
	behind.Last[1] = answer(1, 3, 3, false, 0)
	comes(t, "the third batch", w, []api.Req{{Client: 1, Seq: 3, Op: api.Op{Kind: api.KDel, Key: 3}}}, behind, behind.Last[1])
}

// P15.1: a batch of nothing counts as a slot, and its view was the one that is.
func TestDoNothing(t *testing.T) {
	for _, w := range someWorlds() {
		comes(t, "nil", w, nil, in(w))
		comes(t, "nothing", w, []api.Req{}, in(w))
	}
}

// P15.1: what is above a client's last reply is done, how far above it may be; what isn't is left out, whoever the client is.
func TestDoSeqs(t *testing.T) {
	seqs := append(samples.Numbers(), 3, 7, 8, 9, 256+5, 1<<32+5)
	for client := range clients {
		for _, last := range seqs {
			w := execs.First(api.View{Mask: 15})
			w.Last[client].Seq = last
			for _, seq := range seqs {
				r := api.Req{Client: client, Seq: seq, Op: samples.OpOf(client)}
				done, want := execs.Do(w, []api.Req{r})
				if seq <= last && (done != in(w) || len(want) > 0) {
					t.Errorf("client %d's %d behind %d is done: %v", client, seq, last, want)
				}
				if seq > last && (done.Last[client].Seq != seq || len(want) != 1 || want[0].Seq != seq || want[0].Client != client) {
					t.Errorf("client %d's %d behind %d isn't done: %v", client, seq, last, want)
				}
			}
		}
	}
}

// P15.1: of one client each request of a batch counts for those behind it, and for no other client's.
func TestDoRising(t *testing.T) {
	w := execs.First(api.View{Mask: 15})
	var l []api.Req
	var want []api.Reply
	for _, seq := range []int{2, 1, 2, 3, 3, 7, 4, 8, 8, 1} {
		for client := 1; client < clients; client++ {
			l = append(l, put(client, seq, client, int64(seq)))
		}
	}
	behind := in(w)
	ahead := map[int]int64{2: 0, 3: 2, 7: 3, 8: 7}
	for _, seq := range []int{2, 3, 7, 8} {
		for client := 1; client < clients; client++ {
			r := answer(client, seq, 1, true, ahead[seq])
			want = append(want, r)
			behind.Cells[client], behind.Last[client] = value(int64(seq)), r
		}
	}
	comes(t, "rising", w, l, behind, want...)
}

// P15.1: a request of no client is left out, and those around it are done.
func TestDoOfNobody(t *testing.T) {
	for _, w := range []api.World{execs.First(api.View{Mask: 15}), in(execs.First(api.View{Num: 7, Mask: 0xf000}))} {
		behind := in(w)
		behind.Cells[1], behind.Cells[2] = value(1), value(2)
		behind.Last[1], behind.Last[2] = answer(1, 1, w.Slot+1, true, 0), answer(2, 1, w.Slot+1, true, 0)
		for _, client := range farClients() {
			for _, op := range []api.Op{samples.OpOf(0), samples.OpOf(1), {Kind: api.KGet}, {Kind: api.KDel, Key: 1}} {
				nobody := api.Req{Client: client, Seq: 1, Op: op}
				comes(t, "nobody's alone", w, []api.Req{nobody}, in(w))
				comes(t, "nobody's among others", w, []api.Req{nobody, put(1, 1, 1, 1), nobody, put(2, 1, 2, 2), nobody}, behind, behind.Last[1], behind.Last[2])
			}
		}
	}
}

// wrongFor are ops that aren't right for the client, such of which the lowest bytes look so among them.
func wrongFor(client int) []api.Op {
	l := samples.WrongOps()
	if client == 0 {
		l = samples.WrongAdminOps()
	}
	for _, far := range []int{256, 1 << 32, -256, math.MinInt} {
		for kind := api.KGet; kind <= api.KView; kind++ {
			l = append(l, api.Op{Kind: kind + far})
		}
		l = append(l, api.Op{Kind: api.KGet, Key: far}, api.Op{Kind: api.KPut, Key: 3 + far, A: 5}, api.Op{Kind: api.KView, Key: far, A: 31})
	}
	return l
}

// P15.1: an op that isn't right for the client is left out: it isn't answered, and its Seq isn't used up.
func TestDoOfWrong(t *testing.T) {
	w := execs.First(api.View{Mask: 15})
	w.Cells = samples.Among(allOf, []int64{3, 0, -1})
	for client := range clients {
		right := api.Req{Client: client, Seq: 1, Op: samples.OpOf(client)}
		behind, want := execs.Do(w, []api.Req{right})
		for _, op := range wrongFor(client) {
			wrong := api.Req{Client: client, Seq: 1, Op: op}
			later := api.Req{Client: client, Seq: 8, Op: op}
			comes(t, "wrong alone", w, []api.Req{wrong}, in(w))
			comes(t, "wrong among others", w, []api.Req{later, right, later, wrong}, behind, want...)
		}
	}
}

// P15.1: each op that is right comes to what layer 14 says, of each client but the administrator; whether it did or not, it is answered, and is the client's last.
func TestDoOps(t *testing.T) {
	for i, w := range someWorlds() {
		for client := 1; client < clients; client++ {
			for _, op := range samples.RightOps() {
				seq := w.Last[client].Seq + 1 + i%3
				behind := in(w)
				var res api.Res
				behind.Cells, res = kv.Do(w.Cells, op)
				behind.Last[client] = api.Reply{Client: client, Seq: seq, Slot: w.Slot + 1, Res: res}
				comes(t, "an op", w, []api.Req{{Client: client, Seq: seq, Op: op}}, behind, behind.Last[client])
			}
		}
	}
}

// P15.1: neither how many requests a batch has, nor what their signatures are, is asked.
func TestDoWhatIsNotAsked(t *testing.T) {
	w := execs.First(api.View{Mask: 15})
	var l []api.Req
	for i := range 300 {
		r := put(1+i%5, 1+i/5, i%keys, int64(i))
		r.Sig = make([]byte, i)
		l = append(l, r)
	}
	behind, replies := execs.Do(w, l)
	if len(replies) != 300 || behind.Slot != 1 || behind.Last[5] != answer(5, 60, 1, true, 299-keys) {
		t.Errorf("%d replies, the last ones %v", len(replies), behind.Last)
	}
}

// P15.1, R3: numbers where there is no value neither count nor are answered, whether or not anything is done.
func TestDoOfStrayNumbers(t *testing.T) {
	r := chance()
	for _, w := range someWorlds() {
		clear(w.Last[:])
		comes(t, "nothing", strayed(w), nil, in(w))
		for key := range keys {
			for kind := api.KGet; kind <= api.KDel; kind++ {
				l := []api.Req{{Client: 1 + r.IntN(5), Seq: 1, Op: api.Op{Kind: kind, Key: key}}}
				behind, want := execs.Do(w, l)
				comes(t, "an op", strayed(w), l, behind, want...)
			}
		}
	}
}

// P15.1, P15.4: what was done isn't done again, in whatever batch it comes, alone or with others, and nothing of what it came to changes.
func TestOnce(t *testing.T) {
	r := chance()
	for range 300 {
		w := execs.First(anyView(r))
		var all []api.Req
		for range 10 {
			l := anyBatch(r, w)
			behind, _ := execs.Do(w, l)
			comes(t, "again", behind, l, in(behind))
			all = append(all, l...)
			comes(t, "all again", behind, all, in(behind))
			fresh := put(3, behind.Last[3].Seq+1, 4, 44)
			after, want := execs.Do(behind, []api.Req{fresh})
			comes(t, "a new one among old ones", behind, slices.Concat(l, []api.Req{fresh}, all), after, want...)
			w = behind
		}
	}
}
