package stops_test

import (
	"slices"
	"sync"
	"testing"

	"consistory/api"
	"consistory/samples"
	"consistory/seals"
	"consistory/stops"
)

// P19.4: of nil stops that they are nil is told of any part, ahead of all else, and otherwise nothing.
func TestNilStops(t *testing.T) {
	var s *stops.Stops
	samples.Takes(t, "nil stops", s, api.ErrNil, by(3, stop(2)), by(9, stop(2)), nil, []byte{1})
	for _, r := range append(unopened(stop(3)), untaken()...) {
		samples.Takes(t, "nil stops", s, api.ErrNil, r.Part)
	}
	unwanted(t, "nil stops", s)
}

// Ways: as many members as there may be in a right view are each found among those who told, wherever their bits are.
func TestAllBits(t *testing.T) {
	for _, mask := range []uint16{127, 0xfe00, 0x5554, 0x2aaa, 0xc1e0} {
		members := samples.Members(mask)
		s := stopsOf(mask)
		samples.Takes(t, "all", s, api.OK, byAll(stop(1), members...)...)
		counted(t, "all", s, len(members), len(members))
		wanted(t, "all", s, 1, 1)
		follows(t, "all", mask, byAll(data(mask, slot), members...), api.Choice{Last: slot})
	}
}

// R3: nil and nothing are one: as a part, as parts, as a body, as seals.
func TestNilIsNothing(t *testing.T) {
	for _, k := range []api.Keys{{}, {Seals: [][]byte{}, Roots: []api.Hash{}}} {
		s := stops.New(k, viewOf(15))
		samples.Takes(t, "no seals", s, api.ErrWho, byAll(stop(2), 0, 1, 2, 3)...)
		samples.Takes(t, "nothing", s, api.ErrShort, nil, []byte{})
		unwanted(t, "no seals", s)
	}
	for _, parts := range [][][]byte{nil, {}} {
		refused(t, "no parts", viewOf(15), next, parts, api.ErrProof)
		for _, body := range [][]byte{nil, {}} {
			m := data(15, first-1)
			m.Body, m.Parts = body, parts
			valid(t, "nothing", 15, m, api.Bind{Last: first - 1})
		}
	}
	for _, part := range [][]byte{nil, {}} {
		refused(t, "nothing thrice", viewOf(15), next, [][]byte{part, part, part}, api.ErrShort)
	}
}

// R4: nothing that is handed in is changed, spare room included, and what is behind it tells nothing.
func TestHandedInStays(t *testing.T) {
	k := table()
	list, sealsStay := samples.RoomyTexts(k.Seals)
	k.Seals = list
	s := stops.New(k, viewOf(15))
	var plain [][]byte
	for _, r := range append(unopened(stop(3)), untaken()...) {
		plain = append(plain, r.Part)
	}
	plain = append(plain, byAll(stop(3), 0, 1, 1, 3)...)
	parts, partsStay := samples.RoomyTexts(plain)
	other := stopsOf(15)
	for i, part := range parts {
		if e, f := s.Take(part), other.Take(plain[i]); e != f {
			t.Errorf("part %d comes to %v with room behind; want %v", i, e, f)
		}
	}
	wanted(t, "with room behind", s, 3, 3)
	for _, r := range append(unchosen(), samples.Refusal{Part: by(2, bound(15, data(15, slot), 4, 1))}) {
		plain := append(three(), r.Part)
		parts, stays := samples.RoomyTexts(plain)
		c, e := stops.Choose(k, viewOf(15), first, next, parts)
		if d, f := stops.Choose(table(), viewOf(15), first, next, plain); e != f || e != r.Want || !sameChoice(c, d) || !stays() {
			t.Errorf("with room behind: %v; want %v, or parts are changed", e, r.Want)
		}
	}
	if !sealsStay() || !partsStay() || !slices.Equal(k.Roots, made().Roots) {
		t.Error("what was handed in is changed")
	}
}

// R4: nor is the message of which it is asked whether it is valid.
func TestMessageStays(t *testing.T) {
	bad := bound(15, data(15, slot), 4, 1)
	bad.Body = samples.Spoilt(bad.Body)
	for _, plain := range []api.Msg{data(15, first-1), data(15, slot), bound(15, data(15, slot), 4, 1), bound(15, data(15, slot), next, 1), bad} {
		m, stays := samples.RoomyMsg(plain)
		k := table()
		list, sealsStay := samples.RoomyTexts(k.Seals)
		k.Seals = list
		b, e := validBy(k, m)
		if c, f := validBy(table(), plain); e != f || !sameBind(b, c) {
			t.Errorf("%v with room behind: %v, %v; want %v, %v", samples.BriefMsg(m), brief(b), e, brief(c), f)
		}
		if !stays() || !sealsStay() || !slices.Equal(k.Roots, made().Roots) {
			t.Errorf("%v is changed", samples.BriefMsg(m))
		}
	}
}

// R4: nothing that is handed in is kept as it is: not the table, nor its list of seals, nor votes.
func TestNothingIsKept(t *testing.T) {
	k := table()
	for i, seal := range k.Seals {
		_, k.Seals[i] = samples.Roomy(seal)
	}
	s, other := stops.New(k, viewOf(15)), stops.New(k, viewOf(15))
	for _, seal := range k.Seals {
		samples.Spoil(seal)
	}
	votes := byAll(stop(3), 0, 1, 3)
	samples.Takes(t, "its seals are spoilt", s, api.OK, votes...)
	clear(k.Seals)
	clear(k.Roots)
	samples.Takes(t, "its list is cleared", other, api.OK, votes...)
	for _, part := range votes {
		samples.Spoil(part)
	}
	wanted(t, "votes are spoilt", s, 3, 3)
	wanted(t, "votes are spoilt", other, 3, 3)
}

// R4: a batch that is told is new memory, spare room included: it shares none with what was handed in, or with another answer.
func TestBatchesAreNew(t *testing.T) {
	plain := bound(15, data(15, slot), 4, 1)
	m, _ := samples.RoomyMsg(plain)
	parts, _ := samples.RoomyTexts(append(three()[:2], by(2, plain)))
	lists := append(slices.Concat(parts, m.Parts), m.Body)
	for range 2 {
		b, _ := validBy(table(), m)
		c, _ := stops.Choose(table(), viewOf(15), first, next, parts)
		if !sameBind(b, bind(slot, 4, 1)) || !sameChoice(c, choice(slot, 1)) {
			t.Error(brief(b), c.Last, c.Bound)
		}
		_, _ = append(b.Batch, 1), append(c.Batch, 1)
		lists = append(lists, b.Batch, c.Batch)
	}
	if !samples.Apart(lists) {
		t.Error("answers share memory")
	}
}

// R4: an answer stays as it was, whatever becomes of what was handed in, and of another answer.
func TestAnswersStay(t *testing.T) {
	m := bound(15, data(15, slot), 4, 1)
	parts := append(three()[:2], by(2, m))
	b, _ := validBy(table(), m)
	c, _ := stops.Choose(table(), viewOf(15), first, next, parts)
	other, _ := validBy(table(), m)
	another, _ := stops.Choose(table(), viewOf(15), first, next, parts)
	samples.Spoil(other.Batch)
	samples.Spoil(another.Batch)
	valid(t, "other answers are spoilt", 15, m, bind(slot, 4, 1))
	follows(t, "other answers are spoilt", 15, parts, choice(slot, 1))
	for _, l := range append(slices.Concat(parts, m.Parts), m.Body) {
		samples.Spoil(l)
	}
	clear(parts)
	if !sameBind(b, bind(slot, 4, 1)) || !sameChoice(c, choice(slot, 1)) {
		t.Error("answers change with what was handed in")
	}
}

// R5: stops know nothing of each other.
func TestStopsApart(t *testing.T) {
	s, other := stopsOf(15), stopsOf(15)
	samples.Takes(t, "the one", s, api.OK, byAll(stop(9), 0, 1, 2)...)
	unwanted(t, "the other", other)
	samples.Takes(t, "the other", other, api.OK, by(0, stop(2)), by(1, stop(2)))
	wanted(t, "the one", s, 9, 9)
	wanted(t, "the other", other, 2, -1)
}

// R5: an answer hangs on what was handed in, and on what its own stops have been through, not on calls beside it.
func TestSameAgain(t *testing.T) {
	one := bound(15, data(15, slot), 4, 1)
	parts := told(15, data(15, first-1), one, bound(15, data(15, slot), 3, 2))
	var all sync.WaitGroup
	for range 4 {
		all.Go(func() {
			s := stopsOf(15)
			samples.Takes(t, "votes", s, api.OK, by(2, stop(2)), by(0, stop(3)))
			for range 30 {
				wanted(t, "again", s, 2, -1)
				valid(t, "again", 15, one, bind(slot, 4, 1))
				invalid(t, "no proof", 31, one, api.ErrProof)
				follows(t, "again", 15, parts, choice(slot, 1))
				refused(t, "few", viewOf(31), next, parts, api.ErrProof)
			}
		})
	}
	all.Wait()
}

// R1: every call ends and none panics, at all arguments.
func TestNeverPanics(t *testing.T) {
	r := chance()
	numbers := samples.Numbers()
	some := func() int { return numbers[r.IntN(len(numbers))] }
	var none *stops.Stops
	for range 600 {
		k := samples.Table(r, r.IntN(20))
		m := samples.NearMsg(r)
		if r.IntN(2) == 0 {
			m.Kind, m.Body = api.MData, batch(1)
		}
		sealed, _ := seals.Seal(k, m)
		m.Parts = append(m.Parts, sealed)
		mask := uint16(r.Uint64())
		wild := samples.WildMsg(r)
		wild.Kind = api.MData
		for _, v := range []api.View{{Num: some(), Mask: mask}, {Num: m.View, Mask: mask}, {Num: m.View, Mask: 15}, {Num: wild.View, Mask: 15}, {}} {
			for _, s := range []*stops.Stops{stops.New(k, v), stops.New(api.Keys{}, v), none} {
				for _, part := range append(samples.Texts(r, r.IntN(100), r.IntN(3), 74), sealed, by(3, stop(r.IntN(regs)))) {
					s.Take(part)
				}
				s.Count(some())
				s.Some(some())
				s.Enough(some())
			}
			for _, m := range []api.Msg{m, wild} {
				stops.Valid(k, v, some(), m)
				stops.Valid(table(), v, m.Slot, m)
				stops.Valid(k, v, m.Slot+1, m)
				stops.Choose(k, v, some(), m.Reg, [][]byte{sealed, sealed, sealed})
				stops.Choose(table(), v, m.Slot, some(), append(three(), m.Parts...))
			}
		}
	}
}
