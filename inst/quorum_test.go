package inst_test

import (
	"slices"
	"testing"

	"consistory/api"
	"consistory/certs"
	"consistory/inst"
	"consistory/samples"
	"consistory/sha"
)

// P18.3, P18.4: a digest is told as soon as a quorum voted for it, whoever of the members they are, by all of their votes; and these prove it.
func TestQuorums(t *testing.T) {
	for _, mask := range samples.RightMasks() {
		members := samples.Members(mask)
		quorum := samples.SharesOf(len(members)).Quorum
		writes, accepts := byAll(wrote(2, 1), members...), byAll(accepted(3, 1), members...)
		for set := range 1 << len(members) {
			w, a := samples.Chosen(writes, set), samples.Chosen(accepts, set)
			x, y := instOf(mask), instOf(mask)
			samples.Takes(t, "votes", x, api.OK, w...)
			samples.Takes(t, "votes", y, api.OK, a...)
			unwritten(t, "of the other kind", y, 2, 3)
			acceptedBy(x).is(t, "of the other kind", outcome{})
			if len(w) < quorum {
				unvoted(t, "few", x)
				unvoted(t, "few", y)
				continue
			}
			writtenIn(x, 2).is(t, "a quorum wrote", won(2, 1, w...))
			acceptedBy(y).is(t, "a quorum accepted", won(3, 1, a...))
			if e := certs.Written(table(), viewOf(mask), 2, slot, digest(1), w); e != api.OK {
				t.Errorf("%d votes of %b prove nothing written: %v", len(w), mask, e)
			}
			if reg, e := certs.Decided(table(), viewOf(mask), slot, digest(1), a); reg != 3 || e != api.OK {
				t.Errorf("%d votes of %b prove nothing decided: %d, %v", len(a), mask, reg, e)
			}
		}
	}
}

// The chapter's example: three of four members write one digest in regency 0.
func TestThreeOfFour(t *testing.T) {
	x := instOf(15)
	parts := byAll(wrote(0, 1), 2, 0, 3)
	samples.Takes(t, "two", x, api.OK, parts[:2]...)
	unvoted(t, "two", x)
	samples.Takes(t, "three", x, api.OK, parts[2])
	writtenIn(x, 0).is(t, "three", won(0, 1, parts[1], parts[0], parts[2]))
	unwritten(t, "in other regencies", x, -1, 1, 2, 40)
	acceptedBy(x).is(t, "just written", outcome{})
}

// P18.3: in whatever order votes come, they are told by rising members, and so soon as they are enough.
func TestOrders(t *testing.T) {
	members := []int{0, 2, 4, 7, 15}
	for _, order := range samples.Orders(members) {
		x := instOf(0x8095)
		for i, from := range order {
			samples.Takes(t, "in any order", x, api.OK, by(from, wrote(2, 1)), by(from, accepted(2, 1)))
			if i < 3 {
				unvoted(t, "few", x)
				continue
			}
			came := slices.Sorted(slices.Values(order[:i+1]))
			writtenIn(x, 2).is(t, "in any order", won(2, 1, byAll(wrote(2, 1), came...)...))
			acceptedBy(x).is(t, "in any order", won(2, 1, byAll(accepted(2, 1), came...)...))
		}
	}
}

// P18.3: of members that vote for unlike digests just those for the one count.
func TestDigestsApart(t *testing.T) {
	x := instOf(127)
	for from := range 4 {
		samples.Takes(t, "four and three", x, api.OK, by(from, wrote(2, 1)), by(from, accepted(2, 1)))
	}
	for from := 4; from < 7; from++ {
		samples.Takes(t, "four and three", x, api.OK, by(from, wrote(2, 2)), by(from, accepted(2, 2)))
	}
	unvoted(t, "four and three", x)
	y := instOf(127)
	for from := range 7 {
		mark := byte(1)
		if from == 1 || from == 5 {
			mark = 2
		}
		samples.Takes(t, "five and two", y, api.OK, by(from, wrote(2, mark)), by(from, accepted(2, mark)))
	}
	writtenIn(y, 2).is(t, "five and two", won(2, 1, byAll(wrote(2, 1), 0, 2, 3, 4, 6)...))
	acceptedBy(y).is(t, "five and two", won(2, 1, byAll(accepted(2, 1), 0, 2, 3, 4, 6)...))
}

// P18.3: digests are held against each other to the last bit.
func TestNearDigests(t *testing.T) {
	m := wrote(2, 1)
	for i := range 8 * len(m.Hash) {
		n := m
		n.Hash[i/8] ^= 1 << (i % 8)
		x := instOf(15)
		samples.Takes(t, "two and two", x, api.OK, by(0, m), by(1, n), by(2, n), by(3, m))
		unvoted(t, "two and two", x)
	}
}

// P18.3: the digest of noughts is one as any other, in regency 0 too.
func TestDigestOfNoughts(t *testing.T) {
	for _, reg := range []int{0, 40} {
		w := wrote(reg, 0)
		w.Hash = api.Hash{}
		a := w
		a.Kind = api.MAccept
		x := instOf(15)
		writes, accepts := byAll(w, 0, 1, 2), byAll(a, 1, 2, 3)
		samples.Takes(t, "noughts", x, api.OK, append(writes, accepts...)...)
		writtenIn(x, reg).is(t, "noughts", outcome{reg, api.Hash{}, writes, true})
		acceptedBy(x).is(t, "noughts", outcome{reg, api.Hash{}, accepts, true})
	}
}

// P18.3: who votes again is counted for what came first alone, and by the vote that came first.
func TestFirstVotes(t *testing.T) {
	x := instOf(15)
	first := samples.WithBody(wrote(2, 1), 3)
	parts := append(byAll(first, 0, 1), by(2, wrote(2, 2)))
	samples.Takes(t, "the first ones", x, api.OK, parts...)
	samples.Takes(t, "others", x, api.ErrOld, append(byAll(wrote(2, 2), 0, 1), by(2, wrote(2, 1)), by(0, first), by(0, wrote(2, 1)))...)
	unvoted(t, "two and one", x)
	last := by(3, wrote(2, 1))
	samples.Takes(t, "the last one", x, api.OK, last)
	writtenIn(x, 2).is(t, "the first ones", won(2, 1, parts[0], parts[1], last))
}

// P18.3: votes of unlike kinds aren't put together, nor are those of unlike regencies.
func TestKindsAndRegenciesApart(t *testing.T) {
	x := instOf(15)
	samples.Takes(t, "two and two", x, api.OK, append(byAll(wrote(2, 1), 0, 1), byAll(accepted(2, 1), 2, 3)...)...)
	samples.Takes(t, "two and two", x, api.OK, append(byAll(wrote(3, 1), 2, 3), byAll(accepted(3, 1), 0, 1)...)...)
	unvoted(t, "two of each", x)
	samples.Takes(t, "three of one", x, api.OK, by(3, wrote(2, 1)))
	writtenIn(x, 2).is(t, "three of one", won(2, 1, byAll(wrote(2, 1), 0, 1, 3)...))
	unwritten(t, "two", x, 3)
	acceptedBy(x).is(t, "two of each", outcome{})
	samples.Takes(t, "three of the other", x, api.OK, by(2, accepted(3, 1)))
	acceptedBy(x).is(t, "three of the other", won(3, 1, byAll(accepted(3, 1), 0, 1, 2)...))
}

// P18.3: each regency can be the one, the first and the last among them; in no other one anything is written, nor in one that there isn't.
func TestEachRegency(t *testing.T) {
	for reg := range regs {
		x := instOf(15)
		writes, accepts := byAll(wrote(reg, 1), 0, 1, 2), byAll(accepted(reg, 2), 1, 2, 3)
		samples.Takes(t, "in a regency", x, api.OK, append(writes, accepts...)...)
		writtenIn(x, reg).is(t, "in its regency", won(reg, 1, writes...))
		acceptedBy(x).is(t, "in its regency", won(reg, 2, accepts...))
		unwritten(t, "in another regency", x, samples.Far(reg)...)
		for _, other := range allRegs() {
			if other != reg {
				unwritten(t, "in another regency", x, other)
			}
		}
	}
}

// P18.3: what is written is told of each regency, unlike digests of unlike ones among them.
func TestAllRegencies(t *testing.T) {
	x := instOf(0x5454)
	members := samples.Members(0x5454)
	for _, reg := range chance().Perm(regs) {
		samples.Takes(t, "in all regencies", x, api.OK, byAll(wrote(reg, byte(reg%7)), members...)...)
	}
	for range 20 {
		for reg := range regs {
			writtenIn(x, reg).is(t, "in all regencies", won(reg, byte(reg%7), byAll(wrote(reg, byte(reg%7)), members...)...))
		}
		unwritten(t, "beyond", x, -1, regs, regs+1)
		acceptedBy(x).is(t, "just written", outcome{})
	}
}

// P18.3: of several regencies in which a quorum accepted the least is told, in whatever order the votes came; in a lesser one a quorum may lack.
func TestLeastRegency(t *testing.T) {
	for _, order := range samples.Orders([]int{1, 5, 40, 17}) {
		x := instOf(15)
		samples.Takes(t, "few in a lesser one", x, api.OK, by(0, accepted(0, 9)), by(1, accepted(0, 9)), by(2, accepted(0, 8)))
		least := regs
		for _, reg := range order {
			parts := byAll(accepted(reg, byte(reg)), 0, 1, 3)
			samples.Takes(t, "in turn", x, api.OK, parts...)
			least = min(least, reg)
			acceptedBy(x).is(t, "in turn", won(least, byte(least), byAll(accepted(least, byte(least)), 0, 1, 3)...))
		}
		samples.Takes(t, "the fourth one", x, api.OK, by(2, accepted(40, 40)))
		acceptedBy(x).is(t, "in a greater one", won(1, 1, byAll(accepted(1, 1), 0, 1, 3)...))
		samples.Takes(t, "the third one", x, api.OK, by(3, accepted(0, 9)))
		acceptedBy(x).is(t, "in the least", won(0, 9, byAll(accepted(0, 9), 0, 1, 3)...))
	}
}

// P18.3, P18.4: by members of a view that isn't right nothing is told, though all of them vote: it couldn't be proved.
func TestWrongViews(t *testing.T) {
	for _, mask := range samples.WrongMasks() {
		x := instOf(mask)
		members := samples.Members(mask)
		for reg := range 3 {
			samples.Takes(t, "all vote", x, api.OK, append(byAll(wrote(reg, 1), members...), byAll(accepted(reg, 1), members...)...)...)
		}
		unvoted(t, "no such members", x)
	}
	for _, num := range append(samples.Numbers(), 61, 62, 256+7, 1<<32+7) {
		x := inst.New(table(), api.View{Num: num, Mask: 15}, slot)
		if num < 0 || num > 60 {
			samples.Takes(t, "no such number", x, api.ErrView, append(byAll(wrote(2, 1), 0, 1, 2), byAll(accepted(2, 1), 0, 1, 2)...)...)
			unvoted(t, "no such number", x)
		}
	}
}

// P18.4: however members' votes are dealt out to three digests, no more than one is written, or accepted, in a regency: the one for which a quorum voted.
func TestOneDigest(t *testing.T) {
	for _, mask := range []uint16{15, 0x8015, 31, 0x5454, 0x5554} {
		members := samples.Members(mask)
		quorum := samples.SharesOf(len(members)).Quorum
		var writes, accepts [3][][]byte
		for mark := range 3 {
			writes[mark], accepts[mark] = byAll(wrote(0, byte(mark)), members...), byAll(accepted(0, byte(mark)), members...)
		}
		deals := 1
		for range members {
			deals *= 3
		}
		for deal := range deals {
			x := instOf(mask)
			var w, a [3][][]byte
			for i := range members {
				mark := deal % 3
				deal /= 3
				samples.Takes(t, "dealt out", x, api.OK, writes[mark][i], accepts[mark][i])
				w[mark], a[mark] = append(w[mark], writes[mark][i]), append(a[mark], accepts[mark][i])
			}
			var wantWritten, wantAccepted outcome
			for mark := range 3 {
				if len(w[mark]) >= quorum {
					wantWritten, wantAccepted = won(0, byte(mark), w[mark]...), won(0, byte(mark), a[mark]...)
				}
			}
			writtenIn(x, 0).is(t, "dealt out", wantWritten)
			acceptedBy(x).is(t, "dealt out", wantAccepted)
		}
	}
}

// P18.4: what is told proves itself to layer 17, votes with bodies and all.
func TestProofs(t *testing.T) {
	x := instOf(127)
	batch := []byte("abc")
	for reg := range regs {
		w, a := samples.WithBody(wrote(reg, 1), byte(reg)), samples.WithBody(accepted(reg, 1), byte(reg))
		w.Hash, a.Hash = sha.Sum(batch), sha.Sum(batch)
		samples.Takes(t, "all vote", x, api.OK, append(byAll(w, 6, 5, 4, 3, 2, 1, 0), byAll(a, 0, 6, 1, 5, 2, 4, 3)...)...)
	}
	for reg := range regs {
		h, l, found := x.Written(reg)
		if e := certs.Written(table(), viewOf(127), reg, slot, h, l); e != api.OK || !found || len(l) != 7 {
			t.Errorf("in %d by %d votes: %v", reg, len(l), e)
		}
	}
	reg, h, l, found := x.Accepted()
	if r, e := certs.Decided(table(), viewOf(127), slot, h, l); r != reg || e != api.OK || !found || len(l) != 7 {
		t.Errorf("in %d by %d votes: %d, %v", reg, len(l), r, e)
	}
	if h != x.Learn(batch) {
		t.Errorf("%x isn't the batch's", h)
	}
}
