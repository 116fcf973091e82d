package stops_test

import (
	"slices"
	"testing"

	"consistory/api"
	"consistory/samples"
	"consistory/stops"
)

// told are what the members of a mask tell, the first the first message and so on.
func told(mask uint16, l ...api.Msg) [][]byte {
	members := samples.Members(mask)
	var parts [][]byte
	for i, m := range l {
		parts = append(parts, by(members[i], m))
	}
	return parts
}

// three is what members 0, 1 and 3 tell who know of nothing.
func three() [][]byte {
	return byAll(data(15, first-1), 0, 1, 3)
}

// P19.3: enough parts, and no fewer, tell what follows, whoever of the members they are of.
func TestEnoughParts(t *testing.T) {
	for _, mask := range samples.RightMasks() {
		members := samples.Members(mask)
		all := byAll(data(mask, first-1), members...)
		for set := range 1 << len(members) {
			l := samples.Chosen(all, set)
			if len(l) < samples.SharesOf(len(members)).Enough {
				refused(t, "few", viewOf(mask), next, l, api.ErrProof)
			} else {
				follows(t, "enough", mask, l, api.Choice{Last: first - 1})
			}
		}
	}
}

// P19.3: how many parts there are is asked ahead of what they are.
func TestNumbersOfParts(t *testing.T) {
	for n := range 2 * room {
		for _, part := range [][]byte{nil, {1}, by(0, data(15, first-1)), by(0, stop(2)), by(9, stop(2))} {
			l := slices.Repeat([][]byte{part}, n)
			want := api.ErrProof
			if n >= 3 && n <= room {
				_, want = stops.Choose(table(), viewOf(15), first, next, slices.Repeat([][]byte{part}, 3))
			}
			refused(t, "so many", viewOf(15), next, l, want)
			if n >= 3 && n <= room && want == api.ErrProof {
				t.Errorf("%d parts are too few, or too many", n)
			}
		}
		l := append(three(), slices.Repeat([][]byte{by(0, data(15, first-1))}, n)...)
		want := api.ErrOld
		if n+3 > room {
			want = api.ErrProof
		}
		if n > 0 {
			refused(t, "enough, and so many more", viewOf(15), next, l, want)
		}
	}
}

// P19.3: of a view that isn't right nothing follows, whoever tells whatever.
func TestChooseOfWrongViews(t *testing.T) {
	for _, mask := range samples.WrongMasks() {
		all := byAll(data(mask, first-1), samples.Members(mask)...)
		for n := range len(all) + 1 {
			refused(t, "no such members", viewOf(mask), next, all[:n], api.ErrProof)
		}
		refused(t, "no such members", viewOf(mask), next, [][]byte{{1}, {2}, {3}, {4}}, api.ErrProof)
	}
	for _, num := range append(samples.Numbers(), 61, 62, 256+7, 1<<32+7) {
		if num < 0 || num > 60 {
			refused(t, "no such number", api.View{Num: num, Mask: 15}, next, three(), api.ErrProof)
		}
	}
}

// unchosen are parts of members 0 to 3, or of nobody, for which nothing follows of any parts.
func unchosen() []samples.Refusal {
	l := unopened(api.Msg{Kind: api.MData, View: 7, Reg: next, Slot: first - 1})
	for kind := api.MPropose; kind <= api.MReq; kind++ {
		m := data(15, first-1)
		m.Kind = kind
		if kind != api.MData {
			l = append(l, samples.Refusal{Part: by(2, m), Want: api.ErrReg})
		}
	}
	for _, reg := range []int{0, 1, next - 1, next + 1, 39, 40} {
		m := data(15, first-1)
		m.Reg = reg
		l = append(l, samples.Refusal{Part: by(2, m), Want: api.ErrReg})
	}
	for _, view := range []int{0, 6, 8, 60} {
		m := data(15, first-1)
		m.View = view
		l = append(l, samples.Refusal{Part: by(2, m), Want: api.ErrView})
	}
	for _, at := range []int{0, 1, first - 2} {
		m := data(15, 0)
		m.Slot = at
		l = append(l, samples.Refusal{Part: by(2, m), Want: api.ErrSlot})
	}
	bare, late, other := data(15, slot), bound(15, data(15, slot), next, 1), bound(15, data(15, slot), 4, 1)
	bare.Parts, other.Body = bare.Parts[:2], batch(2)
	for _, m := range []api.Msg{bare, late, other} {
		l = append(l, samples.Refusal{Part: by(2, m), Want: api.ErrProof})
	}
	spoilt, cut := bound(15, data(15, slot), 4, 1), bound(15, data(15, slot), 4, 1)
	spoilt.Body, cut.Body = samples.Spoilt(spoilt.Body), samples.Cut(cut.Body)
	return append(l, samples.Refusal{Part: by(2, spoilt), Want: api.ErrTag}, samples.Refusal{Part: by(2, cut), Want: api.ErrShort})
}

// P19.3: one part that isn't right, wherever it stands, and however many others are there, lets nothing follow; its own error is told.
func TestOneWrongPart(t *testing.T) {
	seen := map[api.Errno]int{}
	for _, r := range unchosen() {
		seen[r.Want]++
		for at := range 4 {
			refused(t, "one wrong part", viewOf(15), next, slices.Insert(three(), at, r.Part), r.Want)
			if at < 3 {
				refused(t, "and just two others", viewOf(15), next, slices.Replace(three(), at, at+1, r.Part), r.Want)
			}
		}
	}
	for _, e := range []api.Errno{api.ErrShort, api.ErrForm, api.ErrRange, api.ErrFull, api.ErrArg, api.ErrTag, api.ErrWho, api.ErrReg, api.ErrView, api.ErrSlot, api.ErrProof} {
		if seen[e] == 0 {
			t.Errorf("nothing is refused by %v", e)
		}
	}
}

// P19.3, R2: of several parts that aren't right the first one's error is told.
func TestFirstWrongPart(t *testing.T) {
	l := unchosen()
	for i, r := range l {
		behind := l[(i+7)%len(l)]
		refused(t, "two wrong parts", viewOf(15), next, [][]byte{by(0, data(15, first-1)), r.Part, by(1, data(15, first-1)), behind.Part}, r.Want)
		refused(t, "none but wrong ones", viewOf(15), next, [][]byte{r.Part, behind.Part, behind.Part}, r.Want)
	}
}

// P19.3: each member tells once, the same or something else.
func TestToldAlready(t *testing.T) {
	for _, mask := range samples.RightMasks() {
		members := samples.Members(mask)
		all := byAll(data(mask, first-1), members...)
		for _, i := range members {
			for _, m := range []api.Msg{data(mask, first-1), data(mask, slot), samples.WithBody(data(mask, slot), 1)} {
				refused(t, "twice", viewOf(mask), next, append(slices.Clone(all), by(i, m)), api.ErrOld)
			}
			refused(t, "at once", viewOf(mask), next, slices.Repeat([][]byte{by(i, data(mask, slot))}, len(members)), api.ErrOld)
		}
	}
}

// R2: of several errors of one part the one that is named first is told: layer 9's, that it is no MData for the regency, that its member told already, and what makes it invalid.
func TestOrderOfPartsErrors(t *testing.T) {
	m := bound(15, data(15, slot), next, 1)
	twice := func(what string, m api.Msg, want api.Errno) {
		t.Helper()
		refused(t, what, viewOf(15), next, append(three(), by(3, m)), want)
	}
	refused(t, "another one's", viewOf(15), next, append(three(), by(2, m)), api.ErrProof)
	twice("invalid, but old", m, api.ErrOld)
	m.View = 8
	twice("another view's, but old", m, api.ErrOld)
	m.Reg++
	twice("old, and for another regency", m, api.ErrReg)
	m.Reg, m.Kind = next, api.MStop
	twice("old, and no MData", m, api.ErrReg)
	for _, m := range []api.Msg{m, data(15, slot), {Kind: api.MData}} {
		refused(t, "old, but spoilt", viewOf(15), next, append(three(), samples.Spoilt(by(3, m))), api.ErrTag)
		refused(t, "no member's", viewOf(15), next, append(three(), by(4, m)), api.ErrWho)
		refused(t, "cut", viewOf(15), next, append(three(), samples.Cut(by(3, m))), api.ErrShort)
	}
}

// P19.3: the parts must be for the regency that is asked; there is none that no message can have.
func TestForThatRegency(t *testing.T) {
	for _, reg := range []int{0, 1, next, 39, 40} {
		m := data(15, slot)
		m.Reg = reg
		l := byAll(m, 0, 1, 2)
		if c, e := stops.Choose(table(), viewOf(15), first, reg, l); e != api.OK || !sameChoice(c, api.Choice{Last: slot}) {
			t.Errorf("for %d there follows %d, %v", reg, c.Last, e)
		}
		for _, other := range append(samples.Far(reg), 41, 42) {
			refused(t, "for another one", viewOf(15), other, l, api.ErrReg)
		}
	}
}

// P19.3: the last slot is the greatest that any of them tells, wherever that one stands.
func TestLastOfAll(t *testing.T) {
	for _, l := range samples.Orders([]api.Msg{data(15, first-1), data(15, first), data(15, slot), data(15, slot-1)}) {
		follows(t, "four slots", 15, told(15, l...), api.Choice{Last: slot})
	}
	for _, at := range []int{first, 49, 59, 60} {
		for i := range 4 {
			l := slices.Insert(slices.Repeat([]api.Msg{data(15, first-1)}, 3), i, data(15, at))
			follows(t, "one knows more", 15, told(15, l...), api.Choice{Last: at})
		}
	}
}

// P19.3: who binds the next slot does, wherever it stands, and whatever the others tell of lesser slots.
func TestOneBinds(t *testing.T) {
	for _, mask := range samples.RightMasks() {
		n := samples.SharesOf(len(samples.Members(mask))).Enough
		for i := range n {
			l := slices.Repeat([]api.Msg{data(mask, slot)}, n)
			l[i] = bound(mask, data(mask, slot), 0, 1)
			follows(t, "one of all", mask, told(mask, l...), choice(slot, 1))
			for j := range l {
				if j != i {
					l[j] = data(mask, first-1)
				}
			}
			follows(t, "one that knows more", mask, told(mask, l...), choice(slot, 1))
			l[i] = bound(mask, data(mask, first-1), 0, 1)
			follows(t, "one in the first slot", mask, told(mask, l...), choice(first-1, 1))
		}
	}
}

// P19.3: who binds a lesser slot binds nothing, in however great a regency.
func TestLesserSlots(t *testing.T) {
	lesser := []api.Msg{bound(15, data(15, first-1), 5, 1), bound(15, data(15, slot-1), 5, 2), data(15, slot)}
	for _, l := range samples.Orders(lesser) {
		follows(t, "lesser slots", 15, told(15, l...), api.Choice{Last: slot})
	}
	lesser[2] = bound(15, data(15, slot), 0, 3)
	for _, l := range samples.Orders(lesser) {
		follows(t, "lesser slots", 15, told(15, l...), choice(slot, 3))
	}
}

// P19.3: of those that bind, the one with the greatest regency does.
func TestGreatestBinds(t *testing.T) {
	all := []api.Msg{bound(15, data(15, slot), 1, 1), bound(15, data(15, slot), 3, 2), data(15, slot), bound(15, data(15, slot), 2, 3)}
	for _, l := range samples.Orders(all) {
		follows(t, "three bind", 15, told(15, l...), choice(slot, 2))
	}
	all[0] = bound(15, data(15, slot+1), 0, 4)
	for _, l := range samples.Orders(all) {
		follows(t, "one binds a later slot", 15, told(15, l...), choice(slot+1, 4))
	}
}

// P19.3: it is the greatest regency of each that counts, and below the one to which they go on.
func TestGreatestOfEach(t *testing.T) {
	one := bound(15, bound(15, data(15, slot), 1, 1), 4, 1)
	other := bound(15, data(15, slot), 3, 2)
	for _, l := range samples.Orders([]api.Msg{one, other, data(15, slot)}) {
		follows(t, "one wrote twice", 15, told(15, l...), choice(slot, 1))
	}
	late := bound(15, bound(15, data(15, slot), 1, 1), next, 1)
	for _, l := range samples.Orders([]api.Msg{late, other, data(15, slot)}) {
		follows(t, "once too late", 15, told(15, l...), choice(slot, 2))
	}
}

// P19.3: of several with the greatest regency the member with the least number binds, in whatever order they stand.
func TestLeastMember(t *testing.T) {
	for _, mask := range []uint16{15, 0x8015, 0x1111} {
		members := samples.Members(mask)
		for _, marks := range samples.Orders([]int{1, 2, 3}) {
			var parts [][]byte
			for i, mark := range marks {
				parts = append(parts, by(members[i+1], bound(mask, data(mask, slot), 4, mark)))
			}
			lower := by(members[0], bound(mask, data(mask, slot), 3, 4))
			for _, l := range samples.Orders(parts) {
				follows(t, "three alike", mask, l, choice(slot, marks[0]))
				follows(t, "a lesser one of a lesser number", mask, append(l, lower), choice(slot, marks[0]))
			}
		}
	}
}

// P19.3: parts may come in any order: what follows is the same.
func TestOrdersOfParts(t *testing.T) {
	parts := told(31, bound(31, data(31, slot-1), 5, 4), data(31, slot), bound(31, data(31, slot), 2, 3), bound(31, data(31, slot), 2, 2), bound(31, data(31, slot), 1, 1))
	for _, l := range samples.Orders(parts) {
		follows(t, "an order", 31, l, choice(slot, 3))
	}
}

// P19.3: the view's first slot is the one that is asked.
func TestChooseFrom(t *testing.T) {
	l := byAll(api.Msg{Kind: api.MData, View: 7, Reg: next, Slot: 20, Parts: [][]byte{{1}}}, 0, 2, 3)
	for _, c := range []struct {
		first int
		want  api.Errno
	}{{20, api.ErrProof}, {21, api.OK}, {22, api.ErrSlot}, {-1 << 63, api.ErrProof}, {1<<63 - 1, api.ErrSlot}} {
		got, e := stops.Choose(table(), viewOf(15), c.first, next, l)
		if last := got.Last; e != c.want || last != 20 && e == api.OK || e != api.OK && !sameChoice(got, api.Choice{}) {
			t.Errorf("from %d on there follows %d, %v; want %v", c.first, last, e, c.want)
		}
	}
}

// P19.3: it is by the table that parts are sealed, and all that is in them.
func TestChooseByTheTable(t *testing.T) {
	l := told(15, data(15, slot), bound(15, data(15, slot), 4, 1), data(15, slot))
	for _, c := range []struct {
		spoil func(k *api.Keys)
		want  api.Errno
	}{
		{func(k *api.Keys) {}, api.OK},
		{func(k *api.Keys) { k.Seals = nil }, api.ErrWho},
		{func(k *api.Keys) { k.Seals = k.Seals[:2] }, api.ErrProof},
		{func(k *api.Keys) { k.Seals[0][0]++ }, api.ErrTag},
		{func(k *api.Keys) { k.Seals[3][0]++ }, api.ErrProof},
		{func(k *api.Keys) { k.Roots = nil }, api.ErrWho},
		{func(k *api.Keys) { k.Roots[1][0]++ }, api.ErrTag},
	} {
		k := table()
		c.spoil(&k)
		if got, e := stops.Choose(k, viewOf(15), first, next, l); e != c.want || e != api.OK && !sameChoice(got, api.Choice{}) {
			t.Errorf("%d, %v; want %v", got.Last, e, c.want)
		}
	}
}
