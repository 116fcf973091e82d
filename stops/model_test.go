package stops_test

import (
	"math/rand/v2"
	"slices"
	"testing"

	"consistory/api"
	"consistory/samples"
	"consistory/stops"
)

// cast is a part that a test made: of what message, by whom, and whether its tag is spoilt.
type cast struct {
	m      api.Msg
	by     int
	spoilt bool
}

// part is what was made.
func (c cast) part() []byte {
	b := by(c.by, c.m)
	if c.spoilt {
		return samples.Spoilt(b)
	}
	return b
}

// opens is what layer 9 answers to it of those members.
func (c cast) opens(mask uint16) api.Errno {
	switch {
	case c.spoilt:
		return api.ErrTag
	case !slices.Contains(samples.Members(mask), c.by):
		return api.ErrWho
	}
	return api.OK
}

// model tells all anew by what the votes that were taken were made of: it opens none.
type model struct {
	mask  uint16
	taken []cast
}

// take is what is answered to a vote, which is kept if that is no error.
func (l *model) take(c cast) api.Errno {
	e := c.opens(l.mask)
	switch {
	case e != api.OK:
		return e
	case c.m.Kind != api.MStop:
		return api.ErrArg
	case c.m.View != 7:
		return api.ErrView
	case slices.ContainsFunc(l.taken, func(o cast) bool { return o.by == c.by && o.m.Reg >= c.m.Reg }):
		return api.ErrOld
	}
	l.taken = append(l.taken, c)
	return api.OK
}

// tops are the greatest regencies for which the members voted, rising.
func (l *model) tops() []int {
	var all []int
	for _, i := range samples.Members(l.mask) {
		top := -1
		for _, c := range l.taken {
			if c.by == i {
				top = max(top, c.m.Reg)
			}
		}
		if top >= 0 {
			all = append(all, top)
		}
	}
	slices.Sort(all)
	return all
}

// agrees checks that all that is told of the stops is as the model tells it.
func (l *model) agrees(t *testing.T, s *stops.Stops) {
	t.Helper()
	tops := l.tops()
	counts := make([]int, regs)
	for reg := range counts {
		for _, top := range tops {
			if top >= reg {
				counts[reg]++
			}
		}
	}
	counted(t, "in a session", s, counts...)
	shares := samples.SharesOf(len(samples.Members(l.mask)))
	if shares.Some == 0 {
		wanted(t, "in a session", s, -1, -1)
		return
	}
	wanted(t, "in a session", s, nth(tops, shares.Some), nth(tops, shares.Enough))
}

// anyVote is a vote for a regency, of one of these, and at times something else.
func anyVote(r *rand.Rand, from []int) cast {
	c := cast{m: stop(r.IntN(regs)), by: from[r.IntN(len(from))], spoilt: r.IntN(20) == 0}
	if r.IntN(4) == 0 {
		c.m.Slot = slot
		c.m = samples.Changed(r, c.m)
	}
	return c
}

// P19.1: whatever comes, in whatever order, stops tell what one tells who knows what was taken and how it was made.
func TestSessions(t *testing.T) {
	r := chance()
	seen := map[api.Errno]int{}
	masks := append(samples.RightMasks(), samples.WrongMasks()...)
	for round := range 150 {
		mask := masks[round%len(masks)]
		s, l := stopsOf(mask), &model{mask: mask}
		from := append(samples.Members(mask), r.IntN(nodes))
		for range 5 + r.IntN(40) {
			c := anyVote(r, from)
			got, want := s.Take(c.part()), l.take(c)
			if seen[got]++; got != want {
				t.Errorf("%v of %d comes to %v; want %v", samples.BriefMsg(c.m), c.by, got, want)
			}
			if round%5 == 0 {
				l.agrees(t, s)
			}
		}
		l.agrees(t, s)
	}
	for _, e := range []api.Errno{api.OK, api.ErrTag, api.ErrWho, api.ErrArg, api.ErrView, api.ErrOld} {
		if seen[e] < 20 {
			t.Errorf("%v: just %d times", e, seen[e])
		}
	}
	if len(seen) != 6 {
		t.Error(seen)
	}
}

// tale is what a member tells, and what the test that made it knows of it.
type tale struct {
	cast
	reg, mark int       // in which regency it binds (-1: in none), and to which batch
	why       api.Errno // why it isn't valid, if it isn't
}

// anyTale is what the member tells those of a mask, of one of few slots, by parts in any order.
func anyTale(r *rand.Rand, mask uint16, from int) tale {
	x := tale{cast{m: data(mask, []int{first - 1, slot, slot, slot, slot + 1}[r.IntN(5)]), by: from}, -1, r.IntN(5), api.OK}
	for _, reg := range r.Perm(next)[:r.IntN(3)] {
		x.m = bound(mask, x.m, reg, x.mark)
		x.reg = max(x.reg, reg)
	}
	x.m = with(x.m, by(from, stop(3)))
	r.Shuffle(len(x.m.Parts), func(i, j int) { x.m.Parts[i], x.m.Parts[j] = x.m.Parts[j], x.m.Parts[i] })
	return x
}

// spoil makes it another one than it should be, in one of nine ways; at times there is nothing to spoil that way.
func (x *tale) spoil(way int) {
	switch {
	case way == 0:
		x.spoilt = true
	case way == 1:
		x.by = nodes - 1 - x.by
	case way == 2:
		x.m.Kind = api.MSync
	case way == 3:
		x.m.Reg++
	case way == 4:
		x.m.View, x.why = 8, api.ErrView
	case way == 5:
		x.m.Slot, x.why = first-2, api.ErrSlot
	case way == 6 && x.m.Slot >= first:
		x.m.Hash, x.why = api.Hash{1}, api.ErrProof
	case way == 7 && x.reg >= 0:
		x.m.Body, x.why = samples.Cut(x.m.Body), api.ErrShort
	case way == 8 && x.reg >= 0:
		x.m.Body, x.why = batch((x.mark+1)%5), api.ErrProof
	}
}

// tales are what members tell, one by one.
type tales []tale

// parts are the parts that were made of them.
func (l tales) parts() [][]byte {
	var all [][]byte
	for _, x := range l {
		all = append(all, x.part())
	}
	return all
}

// refused is why nothing follows from them, if nothing does.
func (l tales) refused(mask uint16) api.Errno {
	enough := samples.SharesOf(len(samples.Members(mask))).Enough
	if enough == 0 || len(l) < enough || len(l) > room {
		return api.ErrProof
	}
	for i, x := range l {
		e := x.opens(mask)
		switch {
		case e != api.OK:
			return e
		case x.m.Kind != api.MData || x.m.Reg != next:
			return api.ErrReg
		case slices.ContainsFunc(l[:i], func(o tale) bool { return o.by == x.by }):
			return api.ErrOld
		case x.why != api.OK:
			return x.why
		}
	}
	return api.OK
}

// follow is what follows from them, if anything does.
func (l tales) follow() api.Choice {
	last := slices.MaxFunc(l, func(x, y tale) int { return x.m.Slot - y.m.Slot }).m.Slot
	for reg := next - 1; reg >= 0; reg-- {
		for from := range nodes {
			for _, x := range l {
				if x.m.Slot == last && x.reg == reg && x.by == from {
					return choice(last, x.mark)
				}
			}
		}
	}
	return api.Choice{Last: last}
}

// anyTales are what members of a mask tell, at times one twice, too few, or spoilt.
func anyTales(r *rand.Rand, mask uint16) tales {
	members := samples.Members(mask)
	var l tales
	for _, i := range r.Perm(len(members)) {
		l = append(l, anyTale(r, mask, members[i]))
	}
	switch r.IntN(8) {
	case 0:
		l = slices.Insert(l, r.IntN(len(l)+1), anyTale(r, mask, members[r.IntN(len(members))]))
	case 1:
		l = l[:r.IntN(len(l))]
	case 2, 3, 4:
		l = l[:len(l)-1]
	}
	for i := range l {
		if r.IntN(12) == 0 {
			l[i].spoil(r.IntN(9))
		}
	}
	return l
}

// P19.3: whatever members tell, what follows is what one tells who knows how it was made.
func TestAnyTales(t *testing.T) {
	r := chance()
	seen, bounds := map[api.Errno]int{}, map[bool]int{}
	masks := append(samples.RightMasks(), 0x8015, 7, 0x0111)
	for round := range 900 {
		mask := masks[round%len(masks)]
		l := anyTales(r, mask)
		want := l.refused(mask)
		if seen[want]++; want != api.OK {
			refused(t, "any tales", viewOf(mask), next, l.parts(), want)
			continue
		}
		c := l.follow()
		follows(t, "any tales", mask, l.parts(), c)
		bounds[c.Bound]++
	}
	for _, e := range []api.Errno{api.ErrTag, api.ErrWho, api.ErrReg, api.ErrView, api.ErrSlot, api.ErrProof, api.ErrShort, api.ErrOld} {
		if seen[e] < 5 {
			t.Errorf("%v: just %d times", e, seen[e])
		}
	}
	if len(seen) != 9 || bounds[true] < 100 || bounds[false] < 30 {
		t.Errorf("%v; %v", seen, bounds)
	}
}

// P19.2: each of these tells what one tells who knows how it was made.
func TestAnyTale(t *testing.T) {
	r := chance()
	seen := map[api.Errno]int{}
	for round := range 600 {
		mask := samples.RightMasks()[round%14]
		x := anyTale(r, mask, samples.Members(mask)[0])
		if x.spoil(r.IntN(30)); x.m.Kind != api.MData || x.m.Reg != next {
			continue
		}
		if seen[x.why]++; x.why != api.OK {
			invalid(t, "any tale", mask, x.m, x.why)
		} else if x.reg >= 0 {
			valid(t, "any tale", mask, x.m, bind(x.m.Slot, x.reg, x.mark))
		} else {
			valid(t, "any tale", mask, x.m, api.Bind{Last: x.m.Slot})
		}
	}
	if len(seen) != 5 || seen[api.OK] < 300 {
		t.Error(seen)
	}
}

// What the models tell is what was made, so that they can be held against stops.
func TestModels(t *testing.T) {
	l := &model{mask: 15}
	for i, c := range []struct {
		cast
		want api.Errno
	}{
		{cast{stop(3), 0, true}, api.ErrTag},
		{cast{stop(3), 4, false}, api.ErrWho},
		{cast{api.Msg{Kind: api.MData, View: 6}, 0, false}, api.ErrArg},
		{cast{api.Msg{Kind: api.MStop, View: 6}, 0, false}, api.ErrView},
		{cast{stop(3), 0, false}, api.OK},
		{cast{stop(3), 0, false}, api.ErrOld},
		{cast{stop(2), 0, false}, api.ErrOld},
		{cast{stop(4), 0, false}, api.OK},
		{cast{stop(2), 3, false}, api.OK},
	} {
		if e := l.take(c.cast); e != c.want {
			t.Errorf("vote %d comes to %v; want %v", i, e, c.want)
		}
	}
	if tops := l.tops(); !slices.Equal(tops, []int{2, 4}) {
		t.Error(tops)
	}
	all := tales{
		{cast{data(15, slot), 3, false}, 2, 1, api.OK},
		{cast{data(15, slot), 1, false}, 2, 3, api.OK},
		{cast{data(15, slot-1), 0, false}, 5, 4, api.OK},
	}
	if c := all.follow(); all.refused(15) != api.OK || !sameChoice(c, choice(slot, 3)) {
		t.Error(c, all.refused(15))
	}
	all[1].by = 3
	if e, f := all.refused(15), all[:2].refused(15); e != api.ErrOld || f != api.ErrProof {
		t.Error(e, f)
	}
	all[1].m.Reg++
	all[2].why = api.ErrView
	if e, f := all.refused(15), all[2:].refused(15); e != api.ErrReg || f != api.ErrProof {
		t.Error(e, f)
	}
}
