package queue_test

import (
	"math/rand/v2"
	"slices"
	"testing"

	"consistory/api"
	"consistory/queue"
	"consistory/samples"
)

// deed is a request that came to wait, or a Drop.
type deed struct {
	came    api.Req
	dropped bool
	last    [clients]api.Reply
}

// model is a queue that keeps all that ever was done to it, and tells everything by going through that anew.
type model []deed

// all are those behind which no Drop came that they aren't above.
func (m model) all() []api.Req {
	var l []api.Req
	for i, d := range m {
		ends := func(later deed) bool { return later.dropped && d.came.Seq <= later.last[d.came.Client].Seq }
		if !d.dropped && !slices.ContainsFunc(m[i:], ends) {
			l = append(l, d.came)
		}
	}
	return l
}

// batch are the first four that are above their clients' last replies, and above all of these clients that wait ahead.
func (m model) batch(last [clients]api.Reply) []api.Req {
	var l []api.Req
	all := m.all()
	for i, r := range all {
		ahead := func(other api.Req) bool { return other.Client == r.Client && other.Seq >= r.Seq }
		if r.Seq > last[r.Client].Seq && !slices.ContainsFunc(all[:i], ahead) {
			l = append(l, r)
		}
	}
	return l[:min(len(l), batch)]
}

// add is what is answered to a request, which waits if that is no error.
func (m *model) add(r api.Req, formed bool) api.Errno {
	all := m.all()
	switch {
	case !formed:
		return api.ErrArg
	case slices.ContainsFunc(all, func(other api.Req) bool { return other.Client == r.Client && other.Seq == r.Seq }):
		return api.ErrOld
	case len(all) == most:
		return api.ErrFull
	}
	*m = append(*m, deed{came: r})
	return api.OK
}

// anyOf is a request that is formed, or at times one that isn't, and whether it is.
func anyOf(r *rand.Rand, wrong []api.Req, clients, seqs int) (api.Req, bool) {
	if r.IntN(10) == 0 {
		return wrong[r.IntN(len(wrong))], false
	}
	a := samples.ReqOf(r.IntN(clients), 1+r.IntN(seqs))
	a.Sig = samples.Text(r, r.IntN(5))
	return a, true
}

// anyLast are replies of so many Seqs, and at times of one that no request has.
func anyLast(r *rand.Rand, seqs int) [clients]api.Reply {
	var last [clients]api.Reply
	all := samples.Numbers()
	for client := range last {
		last[client].Client, last[client].Seq = client, r.IntN(seqs+1)
		if r.IntN(20) == 0 {
			last[client].Seq = all[r.IntN(len(all))]
		}
	}
	return last
}

// session does n things of any sort to a queue, of so many clients and Seqs, and holds it against the model behind each; it counts what was answered.
func session(t *testing.T, r *rand.Rand, n, clients, seqs int, count map[api.Errno]int) {
	t.Helper()
	q, m := queue.New(), model{}
	wrong := append(samples.WrongReqs(), samples.FarReqs()...)
	for range n {
		last := anyLast(r, seqs)
		if r.IntN(12) == 0 {
			q.Drop(last)
			m = append(m, deed{dropped: true, last: last})
		} else {
			one, formed := anyOf(r, wrong, clients, seqs)
			got, want := q.Add(one), m.add(one, formed)
			if count[got]++; got != want {
				t.Errorf("%v comes to %v; want %v", one, got, want)
			}
		}
		holds(t, "in a session", q, m.all())
		last = anyLast(r, seqs)
		takes(t, "in a session", q, last, m.batch(last))
	}
}

// P16.1, P16.2: whatever comes, is taken and is dropped, in whatever order, a queue is as one that does all of it anew.
func TestSessions(t *testing.T) {
	r := chance()
	count := map[api.Errno]int{}
	for range 150 {
		session(t, r, 60, clients, seqs, count)
		session(t, r, 60, clients, 3, count)
		session(t, r, 40, 2, seqs, count)
	}
	for _, e := range []api.Errno{api.OK, api.ErrArg, api.ErrOld, api.ErrFull} {
		if count[e] < 500 {
			t.Errorf("%v: just %d times", e, count[e])
		}
	}
	if len(count) != 4 {
		t.Errorf("there are other errors: %v", count)
	}
}
