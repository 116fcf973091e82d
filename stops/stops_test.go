package stops_test

import (
	"math"
	"slices"
	"testing"

	"consistory/api"
	"consistory/samples"
	"consistory/seals"
	"consistory/stops"
)

// stopsOf are those of the view of which the messages are, with those members.
func stopsOf(mask uint16) *stops.Stops {
	return stops.New(table(), viewOf(mask))
}

// counted checks how many members want each regency, from 0 on: none wants one behind these, nor one that there isn't.
func counted(t *testing.T, what string, s *stops.Stops, counts ...int) {
	t.Helper()
	for reg := -3; reg < regs+3; reg++ {
		want := 0
		if reg >= 0 && reg < len(counts) {
			want = counts[reg]
		}
		if n := s.Count(reg); n != want {
			t.Errorf("%s: %d want regency %d; want %d", what, n, reg, want)
		}
	}
	for _, reg := range samples.Numbers() {
		if n := s.Count(reg); n != 0 && (reg < 0 || reg >= regs) {
			t.Errorf("%s: %d want regency %d, which there isn't", what, n, reg)
		}
	}
}

// wanted checks which regency some want, and which enough: above each lesser one, and none above it or a greater one.
func wanted(t *testing.T, what string, s *stops.Stops, some, enough int) {
	t.Helper()
	for _, above := range append(samples.Numbers(), -3, 3, 4, 5, 38, 39, 40, 41, some-1, some, some+1, enough-1, enough, enough+1) {
		wantSome, wantEnough := some, enough
		if above >= some {
			wantSome = -1
		}
		if above >= enough {
			wantEnough = -1
		}
		if a, b := s.Some(above), s.Enough(above); a != wantSome || b != wantEnough {
			t.Errorf("%s: above %d some want %d, enough %d; want %d, %d", what, above, a, b, wantSome, wantEnough)
		}
	}
}

// unwanted checks that nobody wants any regency.
func unwanted(t *testing.T, what string, s *stops.Stops) {
	t.Helper()
	counted(t, what, s)
	wanted(t, what, s, -1, -1)
}

// P19.1: of new stops nobody wants anything, whatever the view.
func TestNoStops(t *testing.T) {
	for _, mask := range append(samples.RightMasks(), samples.WrongMasks()...) {
		for _, num := range append(samples.Numbers(), 7, 60, 61) {
			unwanted(t, "new", stops.New(table(), api.View{Num: num, Mask: mask}))
		}
	}
	unwanted(t, "of no view, and no keys", stops.New(api.Keys{}, api.View{}))
}

// The chapter's example: of four members one wants regency 2, one 3.
func TestTwoAndThree(t *testing.T) {
	s := stopsOf(15)
	samples.Takes(t, "two votes", s, api.OK, by(2, stop(2)), by(0, stop(3)))
	counted(t, "two votes", s, 2, 2, 2, 1)
	wanted(t, "two votes", s, 2, -1)
	if reg := s.Some(0); reg != 2 {
		t.Errorf("above 0 some want %d", reg)
	}
}

// P19.1: a member wants each regency up to the one for which it voted, and none above.
func TestUpTo(t *testing.T) {
	for reg := range regs {
		s := stopsOf(15)
		samples.Takes(t, "one vote", s, api.OK, by(1, stop(reg)))
		var want []int
		for range reg + 1 {
			want = append(want, 1)
		}
		counted(t, "one vote", s, want...)
		wanted(t, "one vote", s, -1, -1)
		samples.Takes(t, "another one", s, api.OK, by(3, stop(reg)))
		wanted(t, "two votes", s, reg, -1)
		samples.Takes(t, "a third one", s, api.OK, by(0, stop(reg)))
		wanted(t, "three votes", s, reg, reg)
	}
}

// P19.1: of each member the greatest regency counts: a vote for that or a lesser one is old, and changes nothing.
func TestOld(t *testing.T) {
	for reg := range regs {
		for later := range regs {
			s := stopsOf(15)
			samples.Takes(t, "the others", s, api.OK, by(0, stop(regs-1)), by(2, stop(regs-1)))
			samples.Takes(t, "a vote", s, api.OK, by(3, stop(reg)))
			want := api.OK
			if later <= reg {
				want = api.ErrOld
			}
			samples.Takes(t, "a later vote", s, want, by(3, stop(later)))
			samples.Takes(t, "once more", s, api.ErrOld, by(3, stop(later)), by(3, stop(reg)))
			wanted(t, "two votes of one", s, regs-1, max(reg, later))
		}
	}
}

// P19.1: step by step a member wants more; no other one's votes are old by that.
func TestStepByStep(t *testing.T) {
	s := stopsOf(0x8015)
	for reg := range regs {
		for i, from := range []int{15, 0, 4} {
			samples.Takes(t, "step by step", s, api.OK, by(from, stop(reg)))
			samples.Takes(t, "again", s, api.ErrOld, by(from, stop(reg)), by(from, stop(0)))
			if n := s.Count(reg); n != i+1 {
				t.Errorf("%d want %d", n, reg)
			}
		}
		wanted(t, "step by step", s, reg, reg)
	}
}

// P19.1: whatever it is that was voted for, each member's greatest regency is told: some want the one for which as many voted, or for a greater one.
func TestSomeAndEnough(t *testing.T) {
	r := chance()
	for range 40 {
		for _, mask := range samples.RightMasks() {
			members := samples.Members(mask)
			shares := samples.SharesOf(len(members))
			s := stopsOf(mask)
			var tops []int
			for _, i := range r.Perm(len(members)) {
				reg := r.IntN(regs)
				samples.Takes(t, "one vote each", s, api.OK, by(members[i], stop(reg)))
				tops = append(tops, reg)
				slices.Sort(tops)
				wanted(t, "one vote each", s, nth(tops, shares.Some), nth(tops, shares.Enough))
			}
		}
	}
}

// nth is the n-th greatest of numbers that rise; -1, if there are fewer.
func nth(l []int, n int) int {
	if n > len(l) {
		return -1
	}
	return l[len(l)-n]
}

// P19.1: just as many as some are some, and just as many as enough are enough, whoever of the members they are.
func TestSetsOfMembers(t *testing.T) {
	for _, mask := range samples.RightMasks() {
		members := samples.Members(mask)
		shares := samples.SharesOf(len(members))
		votes := byAll(stop(5), members...)
		for set := range 1 << len(members) {
			s := stopsOf(mask)
			l := samples.Chosen(votes, set)
			samples.Takes(t, "a set", s, api.OK, l...)
			n := len(l)
			counted(t, "a set", s, n, n, n, n, n, n)
			some, enough := -1, -1
			if n >= shares.Some {
				some = 5
			}
			if n >= shares.Enough {
				enough = 5
			}
			wanted(t, "a set", s, some, enough)
		}
	}
}

// P19.1: regency 0 can be wanted too; nobody wants it who told nothing.
func TestRegencyZero(t *testing.T) {
	s := stopsOf(15)
	samples.Takes(t, "for 0", s, api.OK, by(0, stop(0)), by(1, stop(0)))
	counted(t, "two", s, 2)
	wanted(t, "two", s, 0, -1)
	samples.Takes(t, "for 0", s, api.OK, by(2, stop(0)))
	counted(t, "three", s, 3)
	wanted(t, "three", s, 0, 0)
	if a, b, c := s.Some(-1), s.Enough(math.MinInt), s.Enough(0); a != 0 || b != 0 || c != -1 {
		t.Error(a, b, c)
	}
}

// P19.1: of a view that isn't right nothing is wanted by some, or by enough, though its members are counted.
func TestWrongViews(t *testing.T) {
	for _, mask := range samples.WrongMasks() {
		s := stopsOf(mask)
		members := samples.Members(mask)
		samples.Takes(t, "all vote", s, api.OK, byAll(stop(2), members...)...)
		samples.Takes(t, "all vote again", s, api.ErrOld, byAll(stop(2), members...)...)
		n := len(members)
		counted(t, "no such members", s, n, n, n)
		wanted(t, "no such members", s, -1, -1)
	}
	for _, num := range append(samples.Numbers(), 61, 62, 256+7, 1<<32+7) {
		if num < 0 || num > 60 {
			s := stops.New(table(), api.View{Num: num, Mask: 15})
			samples.Takes(t, "no such number", s, api.ErrView, byAll(stop(2), 0, 1, 2)...)
			unwanted(t, "no such number", s)
		}
	}
}

// untaken are messages of members 0 to 3 that are no votes in this view.
func untaken() []samples.Refusal {
	var l []samples.Refusal
	for kind := api.MPropose; kind <= api.MReq; kind++ {
		m := stop(3)
		m.Kind = kind
		if kind != api.MStop {
			l = append(l, samples.Refusal{Part: by(2, m), Want: api.ErrArg})
		}
	}
	for _, view := range []int{0, 1, 6, 8, 59, 60} {
		m := stop(3)
		m.View = view
		l = append(l, samples.Refusal{Part: by(2, m), Want: api.ErrView})
	}
	return l
}

// unopened are parts that members 0 to 3 can't have told.
func unopened(m api.Msg) []samples.Refusal {
	return samples.Unopened(seals.Seal, table(), m)
}

// P19.1: whatever isn't rightly sealed by a member, is no MStop, or is another view's, is told by its error, and changes nothing.
func TestRefusals(t *testing.T) {
	seen := map[api.Errno]int{}
	s := stopsOf(15)
	for _, r := range append(unopened(stop(3)), untaken()...) {
		seen[r.Want]++
		samples.Takes(t, "refused", s, r.Want, r.Part, r.Part)
		unwanted(t, "refused", s)
		other := stopsOf(15)
		samples.Takes(t, "ahead", other, api.OK, by(2, stop(3)), by(3, stop(3)))
		samples.Takes(t, "behind votes", other, r.Want, r.Part)
		counted(t, "behind votes", other, 2, 2, 2, 2)
	}
	samples.Takes(t, "behind all refused", s, api.OK, byAll(stop(3), 0, 1, 2, 3)...)
	wanted(t, "behind all refused", s, 3, 3)
	for _, e := range []api.Errno{api.ErrShort, api.ErrForm, api.ErrRange, api.ErrFull, api.ErrArg, api.ErrTag, api.ErrWho, api.ErrView} {
		if seen[e] == 0 {
			t.Errorf("nothing is refused by %v", e)
		}
	}
}

// P19.1: each member's vote is taken, and nobody else's, whether or not the view is right.
func TestEachMember(t *testing.T) {
	for _, mask := range append(samples.RightMasks(), samples.WrongMasks()...) {
		s := stopsOf(mask)
		n := 0
		for from := range nodes {
			want := api.ErrWho
			if mask>>from&1 == 1 {
				want = api.OK
				n++
			}
			samples.Takes(t, "a vote", s, want, by(from, stop(1)))
			counted(t, "a vote", s, n, n)
		}
	}
}

// P19.1: a vote's view must be the one with the number, whatever that is; its members don't matter, nor does the slot, the digest, the body or the parts.
func TestViews(t *testing.T) {
	for _, view := range []int{0, 1, 7, 59, 60} {
		m := samples.WithBody(stop(4), 9)
		m.View, m.Slot, m.Hash = view, 60-view, digest(1)
		part := by(3, m)
		s := stops.New(table(), api.View{Num: view, Mask: 0xf8})
		samples.Takes(t, "its own", s, api.OK, part)
		counted(t, "its own", s, 1, 1, 1, 1, 1)
		for _, other := range samples.Far(view) {
			s := stops.New(table(), api.View{Num: other, Mask: 0xf8})
			samples.Takes(t, "another view's", s, api.ErrView, part)
			unwanted(t, "another view's", s)
		}
	}
}

// R2: of several errors the one that is named first is told: layer 9's, that it is no MStop, another view's, that it is old.
func TestOrderOfErrors(t *testing.T) {
	s := stopsOf(15)
	samples.Takes(t, "the first one", s, api.OK, by(3, stop(2)))
	m := stop(1)
	samples.Takes(t, "old", s, api.ErrOld, by(3, m))
	m.View++
	samples.Takes(t, "and another view's", s, api.ErrView, by(3, m))
	m.Kind = api.MWrite
	samples.Takes(t, "and no vote", s, api.ErrArg, by(3, m))
	m.View--
	samples.Takes(t, "no vote for an old one", s, api.ErrArg, by(3, m))
	for _, m := range []api.Msg{m, stop(1), {Kind: api.MStop, View: 60}, {Kind: api.MReply}} {
		samples.Takes(t, "no member's", s, api.ErrWho, by(4, m))
		samples.Takes(t, "spoilt", s, api.ErrTag, samples.Spoilt(by(4, m)), samples.Spoilt(by(3, m)))
		samples.Takes(t, "cut", s, api.ErrShort, samples.Cut(by(4, m)), samples.Cut(by(3, m)))
	}
}

// P19.1: it is by the table of the stops that a vote is sealed; who has no seal there has no vote.
func TestByTheTable(t *testing.T) {
	k := table()
	k.Seals = k.Seals[:3]
	s := stops.New(k, viewOf(15))
	samples.Takes(t, "no seal", s, api.ErrWho, by(3, stop(2)))
	samples.Takes(t, "a seal", s, api.OK, byAll(stop(2), 0, 1, 2)...)
	k = table()
	k.Seals[1], k.Seals[2] = append(k.Seals[1], 1), nil
	s = stops.New(k, viewOf(15))
	samples.Takes(t, "another seal", s, api.ErrTag, by(1, stop(2)), by(2, stop(2)))
	samples.Takes(t, "its seal", s, api.OK, by(0, stop(2)), samples.By(seals.Seal, k, 1, stop(2)), samples.By(seals.Seal, k, 2, stop(2)))
	k = samples.Table(chance(), 40)
	s = stops.New(k, viewOf(0xf00f))
	samples.Takes(t, "many seals", s, api.OK, samples.ByAll(seals.Seal, k, stop(2), 0, 3, 12, 15)...)
}

// P19.1: each bit of a vote counts; one that is changed isn't taken, nor told as old.
func TestEachBit(t *testing.T) {
	s := stopsOf(15)
	part := by(3, stop(2))
	for i := range 8 * len(part) {
		part[i/8] ^= 1 << (i % 8)
		if e := s.Take(part); e == api.OK || e == api.ErrOld || e == api.ErrView {
			t.Errorf("with bit %d changed: %v", i, e)
		}
		part[i/8] ^= 1 << (i % 8)
	}
	unwanted(t, "all changed", s)
	samples.Takes(t, "as it was", s, api.OK, part)
}

// P19.1: in whatever order votes come, the same is wanted.
func TestOrdersOfVotes(t *testing.T) {
	votes := [][]byte{by(0, stop(3)), by(1, stop(1)), by(1, stop(7)), by(2, stop(40)), by(3, stop(5))}
	for _, l := range samples.Orders(votes) {
		s := stopsOf(15)
		for _, part := range l {
			s.Take(part)
		}
		counted(t, "an order", s, append([]int{4, 4, 4, 4, 3, 3, 2, 2}, slices.Repeat([]int{1}, 33)...)...)
		wanted(t, "an order", s, 7, 5)
	}
}
