package votes_test

import (
	"math/rand/v2"
	"slices"
	"testing"

	"consistory/api"
	"consistory/votes"
)

// model is a book that keeps each vote that it took, and tells everything by going through them all.
type model []api.Vote

// slot is the greatest slot of which there is a vote; that a regency was entered is none.
func (m model) slot() int {
	slot := 0
	for _, v := range m {
		slot = max(slot, v.Slot)
	}
	return slot
}

// in are the votes of a kind and a slot, in that order in which they came.
func (m model) in(kind, slot int) model {
	var l model
	for _, v := range m {
		if v.Kind == kind && v.Slot == slot {
			l = append(l, v)
		}
	}
	return l
}

// rank is how great the regency of a formed vote is.
func rank(v api.Vote) int {
	return 100*v.View + v.Reg
}

// of are the votes of a regency.
func (m model) of(view, reg int) model {
	return slices.DeleteFunc(slices.Clone(m), func(v api.Vote) bool { return v.View != view || v.Reg != reg })
}

// greatest are the votes of the greatest regency of which there is one.
func (m model) greatest() model {
	view, reg := 0, 0
	for _, v := range m {
		if rank(v) > 100*view+reg {
			view, reg = v.View, v.Reg
		}
	}
	return m.of(view, reg)
}

// first is the vote that came first, and whether there is one.
func (m model) first() (api.Vote, bool) {
	if len(m) == 0 {
		return api.Vote{}, false
	}
	return m[0], true
}

// wrote is what was written in a regency.
func (m model) wrote(view, reg int) (api.Vote, bool) {
	return m.in(api.VWrite, m.slot()).of(view, reg).first()
}

// accepted is what was accepted.
func (m model) accepted() (api.Vote, bool) {
	return m.in(api.VAccept, m.slot()).greatest().first()
}

// all are the votes that make the book anew.
func (m model) all() []api.Vote {
	all := m.in(api.VReg, 0).greatest()
	all = all[:min(len(all), 1)]
	written := m.in(api.VWrite, m.slot())
	slices.SortStableFunc(written, func(v, w api.Vote) int { return rank(v) - rank(w) })
	all = append(all, slices.CompactFunc(written, func(v, w api.Vote) bool { return rank(v) == rank(w) })...)
	if v, is := m.accepted(); is {
		all = append(all, v)
	}
	return all
}

// told tells of a vote, and whether there is one, what is to be held against another one.
func told(v api.Vote, is bool) string {
	if !is && same(v, api.Vote{}) {
		return "none"
	}
	if !is {
		return "false, and a vote beside it"
	}
	return string(bytesOf(v))
}

// tells checks that the book tells all that the model tells.
func tells(t *testing.T, what string, k *votes.Book, m model) {
	t.Helper()
	last, _ := m.in(api.VReg, 0).greatest().first()
	if view, reg := k.Reg(); view != last.View || reg != last.Reg {
		t.Errorf("%s: regency %d, %d; want %d, %d", what, view, reg, last.View, last.Reg)
	}
	if got, want := k.Slot(), m.slot(); got != want {
		t.Errorf("%s: slot %d; want %d", what, got, want)
	}
	if got, want := told(k.Accepted()), told(m.accepted()); got != want {
		t.Errorf("%s: accepted % x; want % x", what, got, want)
	}
	for _, in := range append([]api.Vote{{}, entered(-1, 0), entered(0, -1), entered(1<<32, 0)}, m...) {
		if got, want := told(k.Wrote(in.View, in.Reg)), told(m.wrote(in.View, in.Reg)); got != want {
			t.Errorf("%s: wrote in %d, %d % x; want % x", what, in.View, in.Reg, got, want)
		}
	}
	if got, want := k.All(), m.all(); !slices.EqualFunc(got, want, same) {
		t.Errorf("%s: all %v; want %v", what, briefs(got), briefs(want))
	}
}

// take is what the model answers to a vote, which it keeps if that is no error.
func (m *model) take(v api.Vote, formed bool) api.Errno {
	if !formed {
		return api.ErrArg
	}
	if v.Kind != api.VReg && v.Slot < m.slot() {
		return api.ErrOld
	}
	*m = append(*m, v)
	return api.OK
}

// session takes n votes of any sort, of views, regencies and slots below those, and holds the book against the model behind each. Now and then it goes on with the book that All makes anew.
func session(t *testing.T, r *rand.Rand, n, views, regs, slots int) {
	t.Helper()
	k, m, wrong := votes.New(), model{}, wrongVotes()
	for range n {
		view, reg, slot, mark := r.IntN(views), r.IntN(regs), r.IntN(slots), byte(r.IntN(256))
		l := []api.Vote{entered(view, reg), wrote(view, reg, slot, mark), accepted(view, reg, slot, mark), wrong[r.IntN(len(wrong))]}
		i := r.IntN(len(l))
		if got, want := k.Take(l[i]), m.take(l[i], i < 3); got != want {
			t.Errorf("%v is taken with %v; want %v", brief(l[i]), got, want)
		}
		tells(t, "in a session", k, m)
		if r.IntN(4) == 0 {
			k = bookOf(t, k.All()...)
			tells(t, "made anew", k, m)
		}
	}
}

// P13.2, P13.3, P13.4: votes of few regencies and slots, so that many are of one.
func TestSessionsOfFew(t *testing.T) {
	r := chance()
	for range 150 {
		session(t, r, 30, 3, 3, 3)
		session(t, r, 20, 2, 4, 1)
	}
}

// P13.2, P13.3, P13.4: votes of all regencies and slots there are.
func TestSessionsOfMany(t *testing.T) {
	r := chance()
	for range 15 {
		session(t, r, 30, 61, 41, 61)
		session(t, r, 40, 61, 41, 2)
	}
}
