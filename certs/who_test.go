package certs_test

import (
	"slices"
	"testing"

	"consistory/api"
	"consistory/certs"
	"consistory/samples"
)

// P17.1: of no parts, and of such that count for nothing, nobody votes.
func TestNobodyVotes(t *testing.T) {
	m := ballot(api.MWrite)
	for _, mask := range []uint16{15, 0x7f, 0xffff, 0} {
		counts(t, "no parts", table(), viewOf(mask), m, nil)
		all := notCounting(m)
		counts(t, "nothing that counts", table(), viewOf(mask), m, all)
		for _, part := range all {
			counts(t, "a part that doesn't count", table(), viewOf(mask), m, [][]byte{part})
		}
	}
}

// P17.1: each member is told by its own vote, the first of all replicas and the last among them.
func TestEachMember(t *testing.T) {
	m := ballot(api.MWrite)
	for _, mask := range append(samples.RightMasks(), samples.WrongMasks()...) {
		v := viewOf(mask)
		var all [][]byte
		var want []choice
		for i := range nodes {
			part := by(i, m)
			if mask>>i&1 == 1 {
				counts(t, "a member's", table(), v, m, [][]byte{part}, choice{i, 0})
				want = append(want, choice{i, i})
			} else {
				counts(t, "another one's", table(), v, m, [][]byte{part})
			}
			all = append(all, part)
		}
		counts(t, "all replicas'", table(), v, m, all, want...)
	}
}

// P17.1: a vote counts for every kind of message, and for no other one.
func TestEachKind(t *testing.T) {
	for kind := api.MPropose; kind <= api.MReq; kind++ {
		for other := -1; other <= api.MReq+2; other++ {
			m := ballot(kind)
			part := by(3, m)
			m.Kind = other
			if other == kind {
				counts(t, "its own kind", table(), viewOf(15), m, [][]byte{part}, choice{3, 0})
			} else {
				counts(t, "another kind", table(), viewOf(15), m, [][]byte{part})
			}
		}
	}
}

// P17.1: each of the five things that are asked counts; those that can't be in a message are nobody's.
func TestFiveAlike(t *testing.T) {
	for _, kind := range []int{api.MWrite, api.MAccept, api.MStop, api.MMark} {
		m := ballot(kind)
		parts := byAll(m, 0, 1, 2, 3)
		counts(t, "alike", table(), viewOf(15), m, parts, oneEach(0, 1, 2, 3)...)
		for _, other := range near(m) {
			counts(t, "unlike", table(), viewOf(15), other, parts)
			v := viewOf(15)
			v.Num = other.View
			counts(t, "unlike, and the view too", table(), v, other, parts)
		}
		for _, x := range far(m.Kind) {
			n := m
			n.Kind = x
			counts(t, "no kind", table(), viewOf(15), n, parts)
		}
		for _, x := range far(m.View) {
			n := m
			n.View = x
			counts(t, "no view", table(), viewOf(15), n, parts)
		}
		for _, x := range far(m.Reg) {
			counts(t, "no regency", table(), viewOf(15), inReg(m, x), parts)
		}
		for _, x := range far(m.Slot) {
			n := m
			n.Slot = x
			counts(t, "no slot", table(), viewOf(15), n, parts)
		}
	}
}

// P17.1: numbers at both ends of what a message may have count as any others.
func TestEndsOfNumbers(t *testing.T) {
	for _, view := range []int{0, 1, 60} {
		for _, reg := range []int{0, 1, 39, 40} {
			for _, slot := range []int{0, 1, 59, 60} {
				for _, h := range samples.Hashes(chance())[:3] {
					m := api.Msg{Kind: api.MAccept, View: view, Reg: reg, Slot: slot, Hash: h}
					v := api.View{Num: view, Mask: 0x8015}
					counts(t, "at the ends", table(), v, m, byAll(m, 15, 0, 4), choice{0, 1}, choice{4, 2}, choice{15, 0})
				}
			}
		}
	}
}

// P17.1: of the message that is voted for nothing else is asked, whatever it is: not the sender, nor the body, nor the parts.
func TestNothingElseIsAsked(t *testing.T) {
	m := ballot(api.MWrite)
	parts := byAll(m, 3, 0)
	for _, from := range append(samples.Numbers(), 3, 16) {
		n := m
		n.From = from
		counts(t, "another sender", table(), viewOf(15), n, parts, choice{0, 1}, choice{3, 0})
	}
	for _, n := range []api.Msg{samples.WithBody(m, 5), {Body: make([]byte, 1<<17)}, {Parts: make([][]byte, 17)}} {
		n.Kind, n.View, n.Reg, n.Slot, n.Hash = m.Kind, m.View, m.Reg, m.Slot, m.Hash
		counts(t, "more than is asked", table(), viewOf(15), n, parts, choice{0, 1}, choice{3, 0})
	}
}

// P17.1: of a vote nothing else is asked either.
func TestVotesWithMore(t *testing.T) {
	m := ballot(api.MWrite)
	parts := [][]byte{by(3, samples.WithBody(m, 4)), by(0, samples.WithBody(m, 5)), by(2, m)}
	counts(t, "with bodies", table(), viewOf(15), m, parts, choice{0, 1}, choice{2, 2}, choice{3, 0})
	counts(t, "with bodies", table(), viewOf(15), samples.WithBody(m, 6), parts, choice{0, 1}, choice{2, 2}, choice{3, 0})
}

// P17.1: the vote's view must be the number of the view that is asked, not just the message's; its members tell nothing of that.
func TestViewsNumber(t *testing.T) {
	for _, num := range append(samples.Numbers(), 6, 7, 8, 59, 60, 61, 256+7, 1<<16+7, 1<<32+7) {
		for _, view := range []int{0, 6, 7, 8, 60} {
			m := ballot(api.MWrite)
			m.View = view
			parts := byAll(m, 0, 1)
			v := api.View{Num: num, Mask: 15}
			if num == view {
				counts(t, "its view", table(), v, m, parts, oneEach(0, 1)...)
			} else {
				counts(t, "another view", table(), v, m, parts)
				m.View = num
				counts(t, "another view's vote", table(), v, m, parts)
			}
		}
	}
}

// P17.1: a message of nothing is nobody's, though what opens to no message has as little.
func TestNothingIsNoVote(t *testing.T) {
	parts := append(notCounting(ballot(api.MWrite)), byAll(api.Msg{Kind: api.MWrite}, 0, 1, 2, 3)...)
	counts(t, "nothing", table(), api.View{Mask: 0xffff}, api.Msg{}, parts)
	counts(t, "nothing", table(), api.View{}, api.Msg{}, parts)
	n := len(parts) - 4
	counts(t, "a kind", table(), api.View{Mask: 15}, api.Msg{Kind: api.MWrite}, parts, choice{0, n}, choice{1, n + 1}, choice{2, n + 2}, choice{3, n + 3})
}

// P17.1: members rise, in whatever order their parts stand.
func TestMembersRise(t *testing.T) {
	m := ballot(api.MAccept)
	for _, order := range samples.Orders([]int{0, 2, 4, 7, 15}) {
		var want []choice
		for _, i := range []int{0, 2, 4, 7, 15} {
			want = append(want, choice{i, slices.Index(order, i)})
		}
		counts(t, "in any order", table(), viewOf(0x8095), m, byAll(m, order...), want...)
	}
}

// P17.1: who votes more than once is told once, by the first part that counts: not by one ahead of it that doesn't, nor by one behind it.
func TestFirstPart(t *testing.T) {
	m := ballot(api.MWrite)
	one, other, third := by(3, samples.WithBody(m, 1)), by(3, samples.WithBody(m, 2)), by(3, m)
	v := viewOf(15)
	for _, order := range samples.Orders([][]byte{one, other, third, by(1, m)}) {
		at := slices.IndexFunc(order, func(b []byte) bool { return b[1] == 3 })
		one := slices.IndexFunc(order, func(b []byte) bool { return b[1] == 1 })
		counts(t, "often", table(), v, m, order, choice{1, one}, choice{3, at})
	}
	for _, wrong := range notCounting(m) {
		counts(t, "ahead of it one that doesn't count", table(), v, m, [][]byte{wrong, other, one}, choice{3, 1})
		counts(t, "behind it one that doesn't count", table(), v, m, [][]byte{other, wrong, one}, choice{3, 0})
	}
	counts(t, "the same again", table(), v, m, [][]byte{one, one, one}, choice{3, 0})
}

// P17.1: who votes for several things is told for each of them, by the part that counts for it.
func TestManyBallots(t *testing.T) {
	m := ballot(api.MWrite)
	all := append([]api.Msg{m}, near(m)...)
	var parts [][]byte
	for _, each := range all {
		parts = append(parts, by(2, each))
	}
	for at, each := range all {
		v := viewOf(15)
		if each.View == v.Num {
			counts(t, "one of many", table(), v, each, parts, choice{2, at})
		}
	}
}

// P17.1: there may be any number of parts.
func TestManyParts(t *testing.T) {
	m := ballot(api.MWrite)
	parts := append(notCounting(m), byAll(m, 3, 3, 1)...)
	n := len(parts) - 3
	if n < 3*room {
		t.Fatalf("%d parts", n)
	}
	counts(t, "many", table(), viewOf(15), m, parts, choice{1, n + 2}, choice{3, n})
}

// P17.1: it is by the table that is asked that a vote is sealed; of whom there is no seal nothing counts.
func TestByTheTable(t *testing.T) {
	m := ballot(api.MWrite)
	parts := byAll(m, 0, 1, 2, 3)
	for n := range nodes + 1 {
		k := samples.Table(chance(), n)
		counts(t, "few seals", k, viewOf(15), m, parts, oneEach(0, 1, 2, 3)[:min(n, 4)]...)
	}
	k := table()
	k.Seals[1] = append(slices.Clone(k.Seals[1]), 1)
	counts(t, "another seal", k, viewOf(15), m, parts, choice{0, 0}, choice{2, 2}, choice{3, 3})
	k.Roots = nil
	counts(t, "no roots", k, viewOf(15), m, parts, choice{0, 0}, choice{2, 2}, choice{3, 3})
}

// P17.1: each bit of a vote counts.
func TestEachBit(t *testing.T) {
	m := ballot(api.MWrite)
	part := by(3, m)
	for i := range 8 * len(part) {
		part[i/8] ^= 1 << (i % 8)
		counts(t, "a bit changed", table(), viewOf(15), m, [][]byte{part})
		part[i/8] ^= 1 << (i % 8)
	}
	counts(t, "as it was", table(), viewOf(15), m, [][]byte{part}, choice{3, 0})
}

// P17.1: what is picked is picked of itself again, and by the same members.
func TestPickedAgain(t *testing.T) {
	m := ballot(api.MAccept)
	parts := append(notCounting(m), byAll(m, 6, 3, 3, 0, 6, 15)...)
	v := viewOf(0x80ff)
	picked := certs.Pick(table(), v, m, parts)
	if len(picked) != 4 {
		t.Fatalf("%d are picked", len(picked))
	}
	counts(t, "picked", table(), v, m, picked, oneEach(0, 3, 6, 15)...)
}
