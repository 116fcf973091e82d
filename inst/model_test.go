package inst_test

import (
	"crypto/sha256"
	"math/rand/v2"
	"slices"
	"testing"

	"consistory/api"
	"consistory/certs"
	"consistory/inst"
	"consistory/samples"
)

// cast is a part that a test made: of what message, by whom, and whether its tag is spoilt.
type cast struct {
	part   []byte
	m      api.Msg
	by     int
	spoilt bool
}

// model tells all anew by what the parts that were taken were made of, and by the batches that came: it opens none.
type model struct {
	view  api.View
	slot  int
	taken []cast
	known [][]byte
}

// take is what is answered to a part, which is kept if that is no error.
func (l *model) take(c cast) api.Errno {
	same := func(o cast) bool { return o.by == c.by && o.m.Kind == c.m.Kind && o.m.Reg == c.m.Reg }
	switch {
	case c.spoilt:
		return api.ErrTag
	case !slices.Contains(samples.Members(l.view.Mask), c.by):
		return api.ErrWho
	case c.m.Kind != api.MWrite && c.m.Kind != api.MAccept:
		return api.ErrArg
	case c.m.View != l.view.Num:
		return api.ErrView
	case c.m.Slot != l.slot:
		return api.ErrSlot
	case slices.ContainsFunc(l.taken, same):
		return api.ErrOld
	}
	l.taken = append(l.taken, c)
	return api.OK
}

// learn keeps a batch, if there is room.
func (l *model) learn(batch []byte) {
	if len(l.known) < room && !l.knows(batch) {
		l.known = append(l.known, batch)
	}
}

// knows tells whether a batch is kept.
func (l *model) knows(batch []byte) bool {
	return slices.ContainsFunc(l.known, func(b []byte) bool { return string(b) == string(batch) })
}

// in is what a quorum voted for in that regency.
func (l *model) in(kind, reg int) outcome {
	quorum := samples.SharesOf(len(samples.Members(l.view.Mask))).Quorum
	for _, c := range l.taken {
		o := outcome{reg, c.m.Hash, nil, true}
		for _, i := range samples.Members(l.view.Mask) {
			at := slices.IndexFunc(l.taken, func(o cast) bool {
				return o.by == i && o.m.Kind == kind && o.m.Reg == reg && o.m.Hash == c.m.Hash
			})
			if at >= 0 {
				o.votes = append(o.votes, l.taken[at].part)
			}
		}
		if quorum > 0 && len(o.votes) >= quorum {
			return o
		}
	}
	return outcome{}
}

// accepted is what a quorum accepted in the least regency.
func (l *model) accepted() outcome {
	for reg := range regs {
		if o := l.in(api.MAccept, reg); o.found {
			return o
		}
	}
	return outcome{}
}

// agrees checks that all that is told of the regencies from -1 to 6 is as the model tells it, and proves itself.
func (l *model) agrees(t *testing.T, x *inst.Inst, found map[int]int) {
	t.Helper()
	for reg := -1; reg < 7; reg++ {
		o := writtenIn(x, reg)
		o.is(t, "in a session", l.in(api.MWrite, reg))
		if !o.found {
			continue
		}
		found[api.MWrite]++
		if e := certs.Written(table(), l.view, reg, l.slot, o.hash, o.votes); e != api.OK {
			t.Errorf("by %d votes of %v nothing is written: %v", len(o.votes), l.view, e)
		}
	}
	o := acceptedBy(x)
	o.is(t, "in a session", l.accepted())
	if !o.found {
		return
	}
	found[api.MAccept]++
	if reg, e := certs.Decided(table(), l.view, l.slot, o.hash, o.votes); reg != o.reg || e != api.OK {
		t.Errorf("by %d votes of %v nothing is decided: %d, %v", len(o.votes), l.view, reg, e)
	}
}

// anyCast is a vote for one of few digests in one of few regencies, and at times something else.
func anyCast(r *rand.Rand, from []int) cast {
	m := wrote(r.IntN(4), []byte{1, 1, 1, 1, 1, 2, 3}[r.IntN(7)])
	if r.IntN(2) == 0 {
		m.Kind = api.MAccept
	}
	switch r.IntN(20) {
	case 0, 1, 2, 3:
		m = samples.Changed(r, m)
	case 4:
		m.Reg = 5
	}
	c := cast{m: m, by: from[r.IntN(len(from))]}
	c.part = by(c.by, c.m)
	if r.IntN(20) == 0 {
		c.spoilt = true
		i := len(c.part) - 1 - r.IntN(32)
		c.part[i] ^= byte(1 + r.IntN(255))
	}
	return c
}

// session does n things of any sort to an instance with those members, and holds it against the model behind each; it counts what was answered, and what was found.
func session(t *testing.T, r *rand.Rand, mask uint16, n int, told map[api.Errno]int, found map[int]int) {
	t.Helper()
	x, l := instOf(mask), &model{view: viewOf(mask), slot: slot}
	from := append(samples.Members(mask), r.IntN(nodes))
	for range n {
		if r.IntN(6) == 0 {
			batch := samples.Text(r, r.IntN(2))
			learns(t, "in a session", x, batch)
			l.learn(batch)
		}
		c := anyCast(r, from)
		got, want := x.Take(c.part), l.take(c)
		if told[got]++; got != want {
			t.Errorf("%v of %d comes to %v; want %v", samples.BriefMsg(c.m), c.by, got, want)
		}
	}
	l.agrees(t, x, found)
	for i := range 256 {
		batch := []byte{byte(i)}
		if _, kept := x.Batch(sha256.Sum256(batch)); kept != l.knows(batch) {
			t.Errorf("the batch %d is kept: %v", i, kept)
		}
	}
}

// P18.1 to P18.4: whatever comes, in whatever order, an instance tells what one tells who knows what was taken and how it was made.
func TestSessions(t *testing.T) {
	r := chance()
	told, found := map[api.Errno]int{}, map[int]int{}
	masks := append(samples.RightMasks(), samples.WrongMasks()...)
	for round := range 400 {
		session(t, r, masks[round%len(masks)], 20+r.IntN(60), told, found)
	}
	for round := range 10 {
		session(t, r, masks[round], 600, told, found)
	}
	for _, e := range []api.Errno{api.OK, api.ErrTag, api.ErrWho, api.ErrArg, api.ErrView, api.ErrSlot, api.ErrOld} {
		if told[e] < 100 {
			t.Errorf("%v: just %d times", e, told[e])
		}
	}
	if len(told) != 7 || found[api.MWrite] < 100 || found[api.MAccept] < 50 {
		t.Errorf("%v; %v", told, found)
	}
}

// R5: step by step an instance tells as the model does, whatever was asked of it ahead.
func TestStepByStep(t *testing.T) {
	r := chance()
	found := map[int]int{}
	for _, mask := range samples.RightMasks() {
		x, l := instOf(mask), &model{view: viewOf(mask), slot: slot}
		for range 60 {
			c := anyCast(r, samples.Members(mask))
			samples.Takes(t, "step by step", x, l.take(c), c.part)
			l.agrees(t, x, found)
		}
	}
	if found[api.MWrite] < 200 || found[api.MAccept] < 100 {
		t.Error(found)
	}
}

// What the model tells is what was made, so that it can be held against an instance.
func TestModel(t *testing.T) {
	l := &model{view: viewOf(15), slot: slot}
	m := accepted(3, 1)
	for i, c := range []struct {
		cast
		want api.Errno
	}{
		{cast{[]byte{1}, m, 0, true}, api.ErrTag},
		{cast{[]byte{2}, m, 4, false}, api.ErrWho},
		{cast{[]byte{3}, api.Msg{Kind: api.MStop}, 0, false}, api.ErrArg},
		{cast{[]byte{4}, api.Msg{Kind: api.MAccept, View: 6, Slot: slot}, 0, false}, api.ErrView},
		{cast{[]byte{5}, api.Msg{Kind: api.MAccept, View: 7}, 0, false}, api.ErrSlot},
		{cast{[]byte{6}, m, 3, false}, api.OK},
		{cast{[]byte{7}, m, 3, false}, api.ErrOld},
		{cast{[]byte{8}, accepted(3, 2), 1, false}, api.OK},
		{cast{[]byte{9}, m, 0, false}, api.OK},
		{cast{[]byte{10}, wrote(3, 1), 2, false}, api.OK},
	} {
		if e := l.take(c.cast); e != c.want {
			t.Errorf("part %d comes to %v; want %v", i, e, c.want)
		}
	}
	l.accepted().is(t, "two", outcome{})
	if e := l.take(cast{[]byte{11}, m, 2, false}); e != api.OK {
		t.Error(e)
	}
	l.accepted().is(t, "three", won(3, 1, []byte{9}, []byte{11}, []byte{6}))
	l.in(api.MAccept, 3).is(t, "three", won(3, 1, []byte{9}, []byte{11}, []byte{6}))
	l.in(api.MWrite, 3).is(t, "one", outcome{})
	for _, batch := range append(batches(room+1), batches(3)...) {
		l.learn(batch)
	}
	if len(l.known) != room || !l.knows(batches(room)[room-1]) || l.knows(nil) {
		t.Errorf("%d batches are known", len(l.known))
	}
}
