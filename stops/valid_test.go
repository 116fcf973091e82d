package stops_test

import (
	"math"
	"slices"
	"testing"

	"consistory/api"
	"consistory/reqs"
	"consistory/samples"
)

// P19.2: who knows no slot of the view decided, and nothing of the next one, needs no proof, whatever the view's members.
func TestNothingYet(t *testing.T) {
	for _, mask := range append(samples.RightMasks(), samples.WrongMasks()...) {
		m := data(mask, first-1)
		valid(t, "nothing yet", mask, m, api.Bind{Last: first - 1})
		m.Hash, m.From = digest(1), 15
		valid(t, "with a digest", mask, m, api.Bind{Last: first - 1})
		valid(t, "with parts of any sort", mask, with(m, nil, []byte{1}, by(1, stop(3))), api.Bind{Last: first - 1})
	}
	for _, from := range []int{0, 1, 2, 60, 61, 62} {
		m := api.Msg{Kind: api.MData, View: 7, Slot: from - 1}
		comesTo(t, "at the beginning of another view", viewOf(15), from, m, api.Bind{Last: from - 1}, api.OK)
	}
}

// P19.2: a slot is decided, if a quorum accepted its digest, whoever of the members they are.
func TestDecided(t *testing.T) {
	for _, mask := range samples.RightMasks() {
		members := samples.Members(mask)
		votes := byAll(vote(api.MAccept, 2, slot, 0), members...)
		m := data(mask, slot)
		for set := range 1 << len(members) {
			m.Parts = samples.Chosen(votes, set)
			if len(m.Parts) < samples.SharesOf(len(members)).Quorum {
				invalid(t, "few", mask, m, api.ErrProof)
			} else {
				valid(t, "a quorum", mask, m, api.Bind{Last: slot})
			}
		}
	}
}

// P19.2: it is the view's first slot from which on that is asked: at the first one already.
func TestFirstSlots(t *testing.T) {
	for _, from := range []int{math.MinInt, math.MinInt + 1, -1, 0, 1, first, slot - 1, slot, slot + 1, slot + 2, 61, math.MaxInt} {
		proved, bare := data(15, slot), data(15, slot)
		bare.Parts = nil
		switch {
		case from > slot+1:
			comesTo(t, "below", viewOf(15), from, proved, api.Bind{}, api.ErrSlot)
			comesTo(t, "below", viewOf(15), from, bare, api.Bind{}, api.ErrSlot)
		case from == slot+1:
			comesTo(t, "just below", viewOf(15), from, proved, api.Bind{Last: slot}, api.OK)
			comesTo(t, "just below", viewOf(15), from, bare, api.Bind{Last: slot}, api.OK)
		default:
			comesTo(t, "proved", viewOf(15), from, proved, api.Bind{Last: slot}, api.OK)
			comesTo(t, "not proved", viewOf(15), from, bare, api.Bind{}, api.ErrProof)
		}
	}
}

// P19.2: a slot that no message can have is below the first one, or isn't proved; no number goes round at the ends.
func TestFarSlots(t *testing.T) {
	ends := append(samples.Numbers(), first-2, first-1, first, slot-1, slot+1, 61, 62)
	for _, at := range ends {
		for _, from := range append(ends, at) {
			m := data(15, slot)
			m.Slot = at
			want, told := api.ErrProof, api.Bind{}
			switch {
			case at < from && at != from-1:
				want = api.ErrSlot
			case at < from:
				want, told.Last = api.OK, at
			}
			comesTo(t, "a far slot", viewOf(15), from, m, told, want)
			if m.Body = batch(1); want == api.OK {
				comesTo(t, "with a batch", viewOf(15), from, m, api.Bind{}, api.ErrProof)
			}
		}
	}
}

// P19.2: what is decided is decided in that slot, for that digest, in that view, by MAccept.
func TestDecidedForThat(t *testing.T) {
	v := vote(api.MAccept, 2, slot, 0)
	wrong := make([]api.Msg, 6)
	for i := range wrong {
		wrong[i] = v
	}
	wrong[0].Slot, wrong[1].Slot, wrong[2].View, wrong[3].View, wrong[4].Kind = slot-1, slot+1, 6, 8, api.MWrite
	wrong[5].Hash = digest(1)
	m := data(15, slot)
	for _, v := range wrong {
		m.Parts = byAll(v, 0, 1, 2, 3)
		invalid(t, "not for that", 15, m, api.ErrProof)
		m.Parts = append(m.Parts[:2:2], byAll(vote(api.MAccept, 2, slot, 0), 2, 3)...)
		invalid(t, "two for that", 15, m, api.ErrProof)
		m.Parts = append(m.Parts, by(1, vote(api.MAccept, 2, slot, 0)))
		valid(t, "three for that", 15, m, api.Bind{Last: slot})
	}
	for _, h := range samples.Hashes(chance()) {
		m := data(15, slot)
		m.Hash = h
		invalid(t, "another digest", 15, m, api.ErrProof)
	}
}

// P19.2: it is decided in any one regency, also in one that isn't below that to which the member goes on, but in one.
func TestDecidedInAny(t *testing.T) {
	m := data(15, slot)
	for reg := range regs {
		m.Parts = byAll(vote(api.MAccept, reg, slot, 0), 3, 1, 0)
		valid(t, "in one", 15, m, api.Bind{Last: slot})
		m.Parts[1] = by(1, vote(api.MAccept, (reg+1)%regs, slot, 0))
		invalid(t, "in two", 15, m, api.ErrProof)
	}
}

// P19.2: who binds tells the batch, its digest, and the regency in which a quorum wrote it, whoever of the members they are.
func TestBinds(t *testing.T) {
	for _, mask := range samples.RightMasks() {
		members := samples.Members(mask)
		votes := byAll(vote(api.MWrite, 4, slot+1, 1), members...)
		for set := range 1 << len(members) {
			l := samples.Chosen(votes, set)
			m := with(data(mask, slot), l...)
			m.Body = batch(1)
			if len(l) < samples.SharesOf(len(members)).Quorum {
				invalid(t, "few wrote", mask, m, api.ErrProof)
			} else {
				valid(t, "a quorum wrote", mask, m, bind(slot, 4, 1))
			}
			m.Body = nil
			valid(t, "no batch", mask, m, api.Bind{Last: slot})
		}
	}
	valid(t, "in the view's first slot", 15, bound(15, data(15, first-1), 0, 3), bind(first-1, 0, 3))
	comesTo(t, "in the very first slot", viewOf(15), 1, bound(15, data(15, 0), 5, 3), bind(0, 5, 3), api.OK)
	comesTo(t, "in slot 0", viewOf(15), 0, bound(15, data(15, -1), 5, 3), bind(-1, 5, 3), api.OK)
}

// P19.2: what is written is written in the next slot, for the digest of the batch, in that view, by MWrite.
func TestWrittenForThat(t *testing.T) {
	v := vote(api.MWrite, 4, slot+1, 1)
	wrong := make([]api.Msg, 7)
	for i := range wrong {
		wrong[i] = v
	}
	wrong[0].Slot, wrong[1].Slot, wrong[2].View, wrong[3].View, wrong[4].Kind = slot, slot+2, 6, 8, api.MAccept
	wrong[5].Hash, wrong[6].Hash = digest(0), api.Hash{}
	for _, v := range wrong {
		m := data(15, slot)
		m.Body = batch(1)
		invalid(t, "not for that", 15, with(m, byAll(v, 0, 1, 2, 3)...), api.ErrProof)
		m = with(m, byAll(v, 0, 1)...)
		m = with(m, byAll(vote(api.MWrite, 4, slot+1, 1), 2, 3)...)
		invalid(t, "two for that", 15, m, api.ErrProof)
		valid(t, "three for that", 15, with(m, by(0, vote(api.MWrite, 4, slot+1, 1))), bind(slot, 4, 1))
	}
	m := bound(15, data(15, slot), 4, 1)
	m.Body = batch(2)
	invalid(t, "another batch", 15, m, api.ErrProof)
}

// P19.2: the regency must be below the one to which the member goes on.
func TestBelowReg(t *testing.T) {
	for reg := range regs {
		m := bound(15, data(15, slot), reg, 1)
		for _, to := range append(samples.Numbers(), reg-1, reg, reg+1, 39, 40, 41, 42) {
			m.Reg = to
			if to > reg {
				valid(t, "below", 15, m, bind(slot, reg, 1))
			} else {
				invalid(t, "not below", 15, m, api.ErrProof)
			}
			bare := data(15, slot)
			bare.Reg = to
			valid(t, "no batch", 15, bare, api.Bind{Last: slot})
		}
	}
}

// P19.2: of several regencies in which it was written the greatest one below counts, wherever its votes stand.
func TestGreatestRegency(t *testing.T) {
	for _, order := range samples.Orders([]int{1, 5, 3}) {
		m := data(15, first-1)
		m.Body = batch(2)
		most := 0
		for _, reg := range order {
			m = with(m, byAll(vote(api.MWrite, reg, first, 2), 0, 2, 3)...)
			most = max(most, reg)
			valid(t, "in turn", 15, m, bind(first-1, most, 2))
		}
		for _, c := range []struct{ to, reg int }{{6, 5}, {5, 3}, {4, 3}, {3, 1}, {2, 1}, {40, 5}} {
			m.Reg = c.to
			valid(t, "below", 15, m, bind(first-1, c.reg, 2))
		}
		for _, to := range []int{1, 0} {
			m.Reg = to
			invalid(t, "none below", 15, m, api.ErrProof)
		}
		m.Reg = next
		m = with(m, byAll(vote(api.MWrite, 4, first, 2), 0, 1)...)
		valid(t, "few in a greater one", 15, m, bind(first-1, 5, 2))
	}
}

// P19.2: votes of one regency don't help those of another, nor do a member's own twice.
func TestWrittenInOne(t *testing.T) {
	m := data(15, slot)
	m.Body = batch(1)
	m = with(m, by(0, vote(api.MWrite, 3, slot+1, 1)), by(1, vote(api.MWrite, 4, slot+1, 1)), by(2, vote(api.MWrite, 5, slot+1, 1)))
	invalid(t, "in three", 15, m, api.ErrProof)
	m = with(m, by(0, vote(api.MWrite, 5, slot+1, 1)))
	m = with(m, m.Parts[len(m.Parts)-1], by(4, vote(api.MWrite, 5, slot+1, 1)), samples.Spoilt(by(3, vote(api.MWrite, 5, slot+1, 1))))
	invalid(t, "two in one", 15, m, api.ErrProof)
	valid(t, "three in one", 15, with(m, by(1, vote(api.MWrite, 5, slot+1, 1))), bind(slot, 5, 1))
}

// P19.2: a body that is no batch, or one that isn't signed, is told by layer 7's very error, ahead of what isn't proved for it.
func TestBatches(t *testing.T) {
	good := batch(1)
	other, _ := reqs.PutBatch([]api.Req{samples.ReqOf(1, 1)})
	bad := own(samples.ReqOf(2, 1))
	bad.Op.A++
	altered, _ := reqs.PutBatch([]api.Req{own(samples.ReqOf(1, 1)), bad})
	seen := map[api.Errno]int{}
	for _, body := range [][]byte{{0}, {1}, {5}, {1, 200, 200}, good[:len(good)-1], append(slices.Clone(good), 0), samples.Spoilt(good), other, altered, {0x81, 0}, {1, 0}, make([]byte, 70000)} {
		_, e := reqs.CheckBatch(table(), body)
		if seen[e]++; e == api.OK {
			t.Errorf("%d bytes are a batch", len(body))
		}
		m := data(15, slot)
		m.Body = body
		invalid(t, "no batch", 15, m, e)
		first := data(15, first-1)
		first.Body = body
		invalid(t, "no batch", 15, first, e)
	}
	for _, e := range []api.Errno{api.ErrShort, api.ErrForm, api.ErrRange, api.ErrTag, api.ErrArg} {
		if seen[e] == 0 {
			t.Errorf("nothing is refused by %v: %v", e, seen)
		}
	}
	for mark := range 5 {
		valid(t, "each batch", 15, bound(15, data(15, slot), 4, mark), bind(slot, 4, mark))
	}
}

// P19.2: it is by the roots of the table that a batch is signed.
func TestBatchByTheTable(t *testing.T) {
	k := table()
	k.Roots = k.Roots[:1]
	m := bound(15, data(15, slot), 4, 1)
	if b, e := validBy(k, m); e != api.ErrWho || !sameBind(b, api.Bind{}) {
		t.Errorf("without its root: %v, %v", brief(b), e)
	}
	k = table()
	k.Roots[1][5] ^= 1
	if b, e := validBy(k, m); e != api.ErrTag || !sameBind(b, api.Bind{}) {
		t.Errorf("with another root: %v, %v", brief(b), e)
	}
	k = table()
	k.Seals = nil
	if b, e := validBy(k, m); e != api.ErrProof || !sameBind(b, api.Bind{}) {
		t.Errorf("without seals: %v, %v", brief(b), e)
	}
}

// P19.2: there are at most 16 parts, whether or not any is needed.
func TestMostParts(t *testing.T) {
	for n := range 2 * room {
		few := data(15, first-1)
		few.Parts = make([][]byte, n)
		proved := bound(15, data(15, slot), 4, 1)
		needed := len(proved.Parts)
		for len(proved.Parts) < n {
			proved.Parts = slices.Insert(proved.Parts, len(proved.Parts)%3, nil)
		}
		if n > room {
			invalid(t, "too many", 15, few, api.ErrProof)
			invalid(t, "too many", 15, proved, api.ErrProof)
			few.Body = []byte{1}
			invalid(t, "too many, and no batch", 15, few, api.ErrProof)
		} else {
			valid(t, "not too many", 15, few, api.Bind{Last: first - 1})
			valid(t, "not too many", 15, proved, bind(slot, 4, 1))
		}
		if n == room && needed != 6 {
			t.Errorf("%d parts are needed", needed)
		}
	}
}

// P19.2: a full proof of the greatest view: five accepted, five wrote in one regency, five in another.
func TestFullProof(t *testing.T) {
	m := bound(127, data(127, slot), 1, 2)
	m = with(m, byAll(vote(api.MWrite, 3, slot+1, 2), 0, 1, 2, 3, 4)...)
	valid(t, "15 parts", 127, m, bind(slot, 3, 2))
	slices.Reverse(m.Parts)
	valid(t, "turned about", 127, m, bind(slot, 3, 2))
	m.Reg = 3
	valid(t, "to a lesser regency", 127, m, bind(slot, 1, 2))
}

// P19.2: no kind but MData tells anything.
func TestKinds(t *testing.T) {
	for _, kind := range append(samples.Numbers(), 3, 4, 5, 6, 7, 8, 9, 10, 11, 12, 13) {
		for _, m := range []api.Msg{data(15, first-1), data(15, slot), bound(15, data(15, slot), 4, 1)} {
			if m.Kind = kind; kind != api.MData {
				invalid(t, "another kind", 15, m, api.ErrArg)
			}
		}
	}
	valid(t, "its kind", 15, data(15, slot), api.Bind{Last: slot})
}

// P19.2: the message's view must be the one with the number, at the ends and far beyond.
func TestDataOfOtherViews(t *testing.T) {
	for _, view := range []int{0, 1, 7, 60} {
		m := api.Msg{Kind: api.MData, View: view, Reg: next, Slot: first - 1}
		comesTo(t, "its own", api.View{Num: view, Mask: 15}, first, m, api.Bind{Last: first - 1}, api.OK)
		for _, other := range samples.Far(view) {
			comesTo(t, "another one", api.View{Num: other, Mask: 15}, first, m, api.Bind{}, api.ErrView)
			n := m
			n.View = other
			comesTo(t, "another one", api.View{Num: view, Mask: 15}, first, n, api.Bind{}, api.ErrView)
		}
	}
}

// P19.2: to members of a view that isn't right nothing is proved.
func TestNoProofInWrongViews(t *testing.T) {
	for _, mask := range samples.WrongMasks() {
		members := samples.Members(mask)
		m := data(15, slot)
		m.Parts = byAll(vote(api.MAccept, 2, slot, 0), members[:min(len(members), room)]...)
		invalid(t, "all accepted", mask, m, api.ErrProof)
		m = data(15, first-1)
		m.Body = batch(1)
		m.Parts = byAll(vote(api.MWrite, 2, first, 1), members[:min(len(members), room)]...)
		invalid(t, "all wrote", mask, m, api.ErrProof)
		m.Body = nil
		valid(t, "no proof needed", mask, m, api.Bind{Last: first - 1})
	}
	for _, num := range []int{-1, 61, 1 << 20, math.MinInt, math.MaxInt} {
		m := api.Msg{Kind: api.MData, View: num, Slot: first - 1}
		comesTo(t, "no such number", api.View{Num: num, Mask: 15}, first, m, api.Bind{Last: first - 1}, api.OK)
		m.Slot = first
		comesTo(t, "no such number", api.View{Num: num, Mask: 15}, first, m, api.Bind{}, api.ErrProof)
	}
}

// P19.2: who sends it isn't asked, nor are parts that prove nothing.
func TestNothingElseIsAsked(t *testing.T) {
	m := bound(15, data(15, slot), 4, 1)
	m = with(m, nil, []byte{1}, by(9, vote(api.MWrite, 5, slot+1, 1)), by(0, stop(3)), by(1, vote(api.MWrite, 5, slot+1, 2)), by(2, m))
	for _, from := range append(samples.Numbers(), 3, 15, 16) {
		m.From = from
		valid(t, "whoever sends it", 15, m, bind(slot, 4, 1))
	}
}

// P19.2: in the last slot that there may be, too, and in no later one.
func TestLastSlot(t *testing.T) {
	m := data(15, 60)
	valid(t, "the last one", 15, m, api.Bind{Last: 60})
	m.Body, m.Parts = batch(1), append(m.Parts, byAll(vote(api.MWrite, 4, 0, 1), 0, 1, 2, 3)...)
	invalid(t, "a batch behind it", 15, m, api.ErrProof)
	valid(t, "a batch in it", 15, bound(15, data(15, 59), 4, 1), bind(59, 4, 1))
}

// R2: of several errors the one that is named first is told: that it is no MData, another view's, a slot below, too many parts or no proof of the slot, no batch, no proof of that.
func TestOrderOfDataErrors(t *testing.T) {
	m := bound(15, data(15, slot), next, 1)
	invalid(t, "no proof of the batch", 15, m, api.ErrProof)
	m.Body = samples.Cut(m.Body)
	invalid(t, "and no batch", 15, m, api.ErrShort)
	m.Hash[3]++
	invalid(t, "and no proof of the slot", 15, m, api.ErrProof)
	m.Parts = make([][]byte, 17)
	invalid(t, "and too many parts", 15, m, api.ErrProof)
	m.Slot = first - 1
	invalid(t, "too many parts, and no batch", 15, m, api.ErrProof)
	m.Slot = first - 2
	invalid(t, "and a slot below", 15, m, api.ErrSlot)
	m.View = 8
	invalid(t, "and another view's", 15, m, api.ErrView)
	m.Kind = api.MStop
	invalid(t, "and no MData", 15, m, api.ErrArg)
	m.View = 7
	invalid(t, "no MData of a slot below", 15, m, api.ErrArg)
}
