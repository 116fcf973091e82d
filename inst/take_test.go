package inst_test

import (
	"slices"
	"testing"

	"consistory/api"
	"consistory/inst"
	"consistory/samples"
	"consistory/seals"
)

// unopened are parts that members 0 to 3 can't have told, whatever the instance's view and slot.
func unopened() []samples.Refusal {
	return samples.Unopened(seals.Seal, table(), wrote(2, 1))
}

// untaken are votes of members 0 to 3 for something else than the slot and the view of the ballots, or for nothing.
func untaken() []samples.Refusal {
	var l []samples.Refusal
	for kind := api.MPropose; kind <= api.MReq; kind++ {
		m := wrote(2, 1)
		m.Kind = kind
		if kind != api.MWrite && kind != api.MAccept {
			l = append(l, samples.Refusal{Part: by(3, m), Want: api.ErrArg})
		}
	}
	for _, m := range []api.Msg{wrote(2, 1), accepted(2, 1)} {
		for _, x := range []int{0, 1, 6, 8, 59, 60} {
			n := m
			n.View = x
			l = append(l, samples.Refusal{Part: by(3, n), Want: api.ErrView})
		}
		for _, x := range []int{0, 1, slot - 1, slot + 1, 60} {
			n := m
			n.Slot = x
			l = append(l, samples.Refusal{Part: by(3, n), Want: api.ErrSlot})
		}
	}
	return l
}

// P18.2: whatever isn't rightly sealed by a member, isn't a vote, or is one of another view or slot, is told by its error, and changes nothing.
func TestRefusals(t *testing.T) {
	seen := map[api.Errno]int{}
	x := instOf(15)
	for _, r := range append(unopened(), untaken()...) {
		seen[r.Want]++
		samples.Takes(t, "refused", x, r.Want, r.Part, r.Part)
		y := instOf(15)
		samples.Takes(t, "the first one", y, r.Want, r.Part)
		unvoted(t, "the first one", y)
		parts := byAll(wrote(2, 1), 0, 1, 3)
		samples.Takes(t, "behind it", y, api.OK, parts...)
		samples.Takes(t, "behind others", y, r.Want, r.Part)
		writtenIn(y, 2).is(t, "ahead of it, and behind it", won(2, 1, parts...))
	}
	unvoted(t, "all refused", x)
	parts := byAll(wrote(2, 1), 0, 1, 3)
	samples.Takes(t, "behind all refused", x, api.OK, parts...)
	writtenIn(x, 2).is(t, "behind all refused", won(2, 1, parts...))
	for _, e := range []api.Errno{api.ErrShort, api.ErrForm, api.ErrRange, api.ErrFull, api.ErrArg, api.ErrTag, api.ErrWho, api.ErrView, api.ErrSlot} {
		if seen[e] == 0 {
			t.Errorf("nothing is refused by %v", e)
		}
	}
}

// P18.2: what layer 9 doesn't open is refused by its very error.
func TestLayerNinesErrors(t *testing.T) {
	for _, r := range unopened() {
		if _, e := seals.OpenOf(table(), viewOf(15), r.Part); e != r.Want {
			t.Errorf("%d bytes open with %v; want %v", len(r.Part), e, r.Want)
		}
	}
	for _, r := range untaken() {
		if _, e := seals.OpenOf(table(), viewOf(15), r.Part); e != api.OK {
			t.Errorf("%d bytes open with %v", len(r.Part), e)
		}
	}
}

// P18.2: each member's vote is taken, and nobody else's, whether or not the view is right.
func TestEachMember(t *testing.T) {
	for _, mask := range append(samples.RightMasks(), samples.WrongMasks()...) {
		x := instOf(mask)
		for from := range nodes {
			want := api.ErrWho
			if mask>>from&1 == 1 {
				want = api.OK
			}
			samples.Takes(t, "its first votes", x, want, by(from, wrote(2, 1)), by(from, accepted(2, 1)))
		}
	}
}

// P18.2: of all kinds just MWrite and MAccept are votes.
func TestEachKind(t *testing.T) {
	for kind := api.MPropose; kind <= api.MReq; kind++ {
		m := wrote(2, 1)
		m.Kind = kind
		want := api.ErrArg
		if kind == 2 || kind == 3 {
			want = api.OK
		}
		samples.Takes(t, "a kind", instOf(15), want, by(3, m))
	}
}

// P18.2: a vote's view must be the instance's number, and its slot the instance's, at both ends and far beyond.
func TestViewsAndSlots(t *testing.T) {
	for _, m := range []api.Msg{wrote(2, 1), accepted(2, 1)} {
		for _, x := range []int{0, 1, 7, 59, 60} {
			m.View, m.Slot = x, 60-x
			part := by(3, m)
			samples.Takes(t, "its own", inst.New(table(), api.View{Num: x, Mask: 15}, 60-x), api.OK, part)
			for _, other := range samples.Far(x) {
				samples.Takes(t, "another view's", inst.New(table(), api.View{Num: other, Mask: 15}, 60-x), api.ErrView, part)
			}
			for _, other := range samples.Far(60 - x) {
				samples.Takes(t, "another slot's", inst.New(table(), api.View{Num: x, Mask: 15}, other), api.ErrSlot, part)
			}
		}
	}
}

// P18.2: a member has one vote of each kind in each regency: the second one is refused, whatever it is for, and no other member's is.
func TestOneVoteEach(t *testing.T) {
	x := instOf(0xffff)
	for _, reg := range []int{0, 1, 2, 39, 40} {
		for from := range nodes {
			samples.Takes(t, "the first ones", x, api.OK, by(from, wrote(reg, byte(from%3))), by(from, accepted(reg, byte(from%5))))
		}
	}
	for _, reg := range []int{0, 1, 2, 39, 40} {
		for from := range nodes {
			for _, mark := range []byte{0, 1, 7} {
				samples.Takes(t, "once more", x, api.ErrOld, by(from, wrote(reg, mark)), by(from, accepted(reg, mark)))
			}
			samples.Takes(t, "with a body", x, api.ErrOld, by(from, samples.WithBody(wrote(reg, 1), 1)), by(from, samples.WithBody(accepted(reg, 1), 1)))
		}
	}
	for reg := 3; reg < 39; reg++ {
		samples.Takes(t, "in other regencies", x, api.OK, by(15, wrote(reg, 1)), by(15, accepted(reg, 1)), by(0, accepted(reg, 1)), by(0, wrote(reg, 1)))
	}
}

// P18.2: each of the three things that tell a vote's place counts alone.
func TestPlaces(t *testing.T) {
	for _, first := range [][]byte{by(1, wrote(2, 1)), by(2, wrote(1, 1)), by(2, accepted(1, 1)), by(3, wrote(2, 1)), by(3, accepted(2, 1))} {
		x := instOf(15)
		samples.Takes(t, "the first one", x, api.OK, first)
		for _, next := range [][]byte{by(1, accepted(2, 1)), by(1, wrote(1, 1)), by(2, wrote(2, 1)), by(0, wrote(2, 1)), by(2, accepted(2, 1)), by(3, accepted(1, 1)), by(1, wrote(3, 1))} {
			samples.Takes(t, "elsewhere", x, api.OK, next)
			samples.Takes(t, "there again", x, api.ErrOld, next, first)
		}
	}
}

// R2: of several errors the one that is named first is told: layer 9's, that it is no vote, another view's, another slot's, that it came.
func TestOrderOfErrors(t *testing.T) {
	x := instOf(15)
	samples.Takes(t, "the first one", x, api.OK, by(3, wrote(2, 1)))
	m := wrote(2, 1)
	samples.Takes(t, "that came", x, api.ErrOld, by(3, m))
	m.Slot++
	samples.Takes(t, "and of another slot", x, api.ErrSlot, by(3, m))
	m.View++
	samples.Takes(t, "and of another view", x, api.ErrView, by(3, m))
	m.Slot--
	samples.Takes(t, "of another view alone", x, api.ErrView, by(3, m))
	m.Kind, m.Slot = api.MStop, slot+1
	samples.Takes(t, "and no vote", x, api.ErrArg, by(3, m))
	m.View = 7
	samples.Takes(t, "no vote of another slot", x, api.ErrArg, by(3, m))
	for _, m := range []api.Msg{m, wrote(2, 1), {Kind: api.MReply, View: 60}, {Kind: api.MWrite, Slot: 3}} {
		samples.Takes(t, "no member's", x, api.ErrWho, by(4, m))
		samples.Takes(t, "spoilt", x, api.ErrTag, samples.Spoilt(by(4, m)), samples.Spoilt(by(3, m)))
		samples.Takes(t, "cut", x, api.ErrShort, samples.Cut(by(4, m)), samples.Cut(by(3, m)))
	}
}

// P18.2: it is by the instance's table that a vote is sealed; who has no seal there has no vote.
func TestByTheTable(t *testing.T) {
	m := wrote(2, 1)
	for n := range nodes + 1 {
		x := inst.New(samples.Table(chance(), n), viewOf(0xffff), slot)
		for from := range nodes {
			want := api.ErrWho
			if from < n {
				want = api.OK
			}
			samples.Takes(t, "few seals", x, want, by(from, m))
		}
	}
	k := table()
	k.Seals[1] = append(slices.Clone(k.Seals[1]), 1)
	k.Seals[2], k.Roots = nil, nil
	x := inst.New(k, viewOf(15), slot)
	samples.Takes(t, "another seal", x, api.ErrTag, by(1, m), by(2, m))
	samples.Takes(t, "its seal", x, api.OK, by(0, m), by(3, m), samples.By(seals.Seal, k, 1, m), samples.By(seals.Seal, k, 2, m))
	k = samples.Table(chance(), 40)
	samples.Takes(t, "many seals", inst.New(k, viewOf(0xffff), slot), api.OK, byAll(m, 0, 1, 14, 15)...)
}

// P18.2: each bit of a vote counts; a vote that is changed takes no place.
func TestEachBit(t *testing.T) {
	x := instOf(15)
	part := by(3, wrote(2, 1))
	for i := range 8 * len(part) {
		part[i/8] ^= 1 << (i % 8)
		if e := x.Take(part); e == api.OK || e == api.ErrOld || e == api.ErrView || e == api.ErrSlot {
			t.Errorf("with bit %d changed: %v", i, e)
		}
		part[i/8] ^= 1 << (i % 8)
	}
	samples.Takes(t, "as it was", x, api.OK, part)
}

// P18.2: at both ends of what a message may have there are votes as any others, for any digest, with any body.
func TestEndsOfNumbers(t *testing.T) {
	for _, view := range []int{0, 60} {
		for _, at := range []int{0, 60} {
			x := inst.New(table(), api.View{Num: view, Mask: 0x8015}, at)
			for _, reg := range []int{0, 1, 39, 40} {
				for i, h := range samples.Hashes(chance())[:4] {
					from := []int{0, 2, 4, 15}[i]
					m := api.Msg{Kind: api.MWrite, View: view, Reg: reg, Slot: at, Hash: h}
					a := m
					a.Kind, a.Body = api.MAccept, make([]byte, 60000)
					samples.Takes(t, "at the ends", x, api.OK, by(from, m), by(from, a))
					samples.Takes(t, "again", x, api.ErrOld, by(from, m), by(from, a))
				}
			}
		}
	}
}
