package execs_test

import (
	"math/rand/v2"
	"slices"
	"testing"

	"consistory/api"
	"consistory/execs"
	"consistory/kv"
	"consistory/reqs"
	"consistory/samples"
	"consistory/views"
)

// model is a world that keeps nothing but the one that it began with and what was done since: all else it tells anew each time.
type model struct {
	base  api.World
	slots int
	done  []step
}

// step is something that was done, its answer, and the view that it brought; none, if it is zero.
type step struct {
	op    api.Op
	reply api.Reply
	view  api.View
}

// slot is the last one.
func (m *model) slot() int {
	return m.base.Slot + m.slots
}

// last is a client's last reply.
func (m *model) last(client int) api.Reply {
	for _, s := range slices.Backward(m.done) {
		if s.reply.Client == client {
			return s.reply
		}
	}
	return m.base.Last[client]
}

// view is the one behind a slot, and the first slot that is its.
func (m *model) view(slot int) (api.View, int) {
	v, first := m.base.View, m.base.First
	for _, s := range m.done {
		if s.view.Mask > 0 && s.reply.Slot <= slot {
			v, first = s.view, s.reply.Slot+1
		}
	}
	return v, first
}

// cells are the values.
func (m *model) cells() [keys]api.Cell {
	c := m.base.Cells
	for _, s := range m.done {
		if s.op.Kind != api.KView {
			c, _ = kv.Do(c, s.op)
		}
	}
	return c
}

// world tells all of it.
func (m *model) world() api.World {
	w := api.World{Slot: m.slot(), Was: m.base.Was, Cells: m.cells()}
	w.View, w.First = m.view(m.slot())
	if m.slots > 0 {
		w.Was, _ = m.view(m.slot() - 1)
	}
	for client := range w.Last {
		w.Last[client] = m.last(client)
	}
	return w
}

// do does a batch, and tells what is answered.
func (m *model) do(l []api.Req) []api.Reply {
	m.slots++
	var replies []api.Reply
	for _, r := range l {
		if r.Client < 0 || r.Client >= clients || !reqs.Right(r.Client, r.Op) || r.Seq <= m.last(r.Client).Seq {
			continue
		}
		s := m.step(r)
		m.done, replies = append(m.done, s), append(replies, s.reply)
	}
	return replies
}

// step is what a request comes to behind all that was done.
func (m *model) step(r api.Req) step {
	s := step{op: r.Op, reply: api.Reply{Client: r.Client, Seq: r.Seq, Slot: m.slot()}}
	if r.Op.Kind != api.KView {
		_, s.reply.Res = kv.Do(m.cells(), r.Op)
		return s
	}
	now, _ := m.view(m.slot() - 1)
	next, e := views.Next(now, r.Op.A)
	came := slices.ContainsFunc(m.done, func(d step) bool { return d.view.Mask > 0 && d.reply.Slot == m.slot() })
	if e == api.OK && !came {
		s.view, s.reply.Res = next, api.Res{OK: true, N: int64(next.Num)}
	}
	return s
}

// anyOp is an op of few keys and small numbers, mostly right for the client.
func anyOp(r *rand.Rand, client int) api.Op {
	if (client == 0) == (r.IntN(20) > 0) {
		l := append(samples.RightMasks(), samples.WrongMasks()[:4]...)
		return api.Op{Kind: api.KView, A: int64(l[r.IntN(len(l))])}
	}
	op := api.Op{Kind: 1 + r.IntN(5), Key: r.IntN(3)}
	if op.Kind != api.KGet && op.Kind != api.KDel || r.IntN(20) == 0 {
		op.A = int64(r.IntN(4))
	}
	if op.Kind == api.KCas || r.IntN(20) == 0 {
		op.B = int64(r.IntN(4))
	}
	return op
}

// anyBatch has requests about as far as the clients of w are, and at times somebody else's.
func anyBatch(r *rand.Rand, w api.World) []api.Req {
	l := make([]api.Req, r.IntN(9))
	for i := range l {
		client := r.IntN(clients)
		l[i] = api.Req{Client: client, Seq: w.Last[client].Seq + r.IntN(4) - 1, Op: anyOp(r, client), Sig: samples.Text(r, r.IntN(3))}
		if r.IntN(20) == 0 {
			l[i].Client = r.IntN(12) - 3
		}
	}
	return l
}

// P15.1: batches one behind the other, from the beginning and from any world, held against the model behind each.
func TestSessions(t *testing.T) {
	r := chance()
	for round := range 300 {
		w := execs.First(anyView(r))
		if round%3 == 0 {
			w = anyWorld(r)
		}
		m := &model{base: w}
		for range 40 {
			l := anyBatch(r, w)
			ahead := w
			var replies []api.Reply
			w, replies = execs.Do(w, l)
			if want := m.do(l); w != m.world() || !slices.Equal(replies, want) {
				t.Fatalf("%v behind\n%v is\n%v with %v; want\n%v with %v", l, ahead, w, replies, m.world(), want)
			}
		}
	}
}

// P15.4: whatever batches come, of each client what is done rises, so that no request is done twice, and each world tells the last ones.
func TestRising(t *testing.T) {
	r := chance()
	for range 300 {
		w := execs.First(anyView(r))
		var last [clients]api.Reply
		for client := range last {
			last[client].Client = client
		}
		for range 40 {
			var replies []api.Reply
			w, replies = execs.Do(w, anyBatch(r, w))
			for _, one := range replies {
				if one.Seq <= last[one.Client].Seq || one.Slot != w.Slot {
					t.Fatalf("%v behind %v in %d", one, last[one.Client], w.Slot)
				}
				last[one.Client] = one
			}
			if w.Last != last {
				t.Fatalf("%v; want %v", w.Last, last)
			}
		}
	}
}
