package certs_test

import (
	"math/bits"
	"testing"

	"consistory/api"
	"consistory/certs"
	"consistory/samples"
	"consistory/views"
)

// P17.2: of no parts nothing is proved.
func TestNoParts(t *testing.T) {
	for _, mask := range append(samples.RightMasks(), samples.WrongMasks()...) {
		written(t, "no parts", viewOf(mask), ballot(api.MWrite), nil, api.ErrProof)
		undecided(t, "no parts", viewOf(mask), ballot(api.MAccept), nil)
	}
	written(t, "nothing at all", api.View{}, api.Msg{}, nil, api.ErrProof)
	undecided(t, "nothing at all", api.View{}, api.Msg{}, nil)
}

// P17.2: just so many as are a quorum prove it, whoever of the members they are.
func TestQuorums(t *testing.T) {
	w, a := ballot(api.MWrite), ballot(api.MAccept)
	for _, mask := range samples.RightMasks() {
		v := viewOf(mask)
		members := samples.Members(mask)
		wrote, accepted := byAll(w, members...), byAll(a, members...)
		for set := range 1 << len(members) {
			var l, m [][]byte
			for i := range members {
				if set>>i&1 == 1 {
					l, m = append(l, wrote[i]), append(m, accepted[i])
				}
			}
			if len(l) < samples.SharesOf(len(members)).Quorum {
				written(t, "few", v, w, l, api.ErrProof)
				undecided(t, "few", v, a, m)
			} else {
				written(t, "a quorum", v, w, l, api.OK)
				decided(t, "a quorum", v, a, m, 2)
			}
		}
	}
}

// lacking are the parts of one member less than a quorum of members 0 to 3, for m.
func lacking(m api.Msg) [][]byte {
	return byAll(m, 0, 3)
}

// P17.2: a quorum is of unlike members, each of which votes for just this: no other part helps.
func TestNothingElseProves(t *testing.T) {
	w, a := ballot(api.MWrite), ballot(api.MAccept)
	v := viewOf(15)
	for _, m := range []api.Msg{w, a} {
		others := append(notCounting(m), by(0, m), by(3, m), by(3, samples.WithBody(m, 1)), by(4, m), by(15, m))
		for _, part := range others {
			parts := append(lacking(m), part)
			if m.Kind == api.MWrite {
				written(t, "one that doesn't help", v, m, parts, api.ErrProof)
				written(t, "one that doesn't harm", v, m, append(parts, by(1, m)), api.OK)
			} else {
				undecided(t, "one that doesn't help", v, m, parts)
				decided(t, "one that doesn't harm", v, m, append(parts, by(1, m)), 2)
			}
		}
		for at := 0; at < len(others); at += 10 {
			parts := append(lacking(m), others[at:min(at+10, len(others))]...)
			written(t, "many that don't help", v, w, parts, api.ErrProof)
			undecided(t, "many that don't help", v, a, parts)
		}
	}
}

// P17.2: votes of the one kind don't prove what those of the other do, nor do those of any other kind.
func TestKindsThatProve(t *testing.T) {
	for kind := api.MPropose; kind <= api.MReq; kind++ {
		m := ballot(kind)
		parts := byAll(m, 0, 1, 2, 3)
		if kind == api.MWrite {
			written(t, "written", viewOf(15), m, parts, api.OK)
		} else {
			written(t, "of another kind", viewOf(15), m, parts, api.ErrProof)
		}
		if kind == api.MAccept {
			decided(t, "accepted", viewOf(15), m, parts, 2)
		} else {
			undecided(t, "of another kind", viewOf(15), m, parts)
		}
	}
}

// P17.2: it is proved for the slot and the digest that are asked, and written in the regency that is asked.
func TestProvedForThat(t *testing.T) {
	w, a := ballot(api.MWrite), ballot(api.MAccept)
	v := viewOf(15)
	wrote, accepted := byAll(w, 0, 1, 2, 3), byAll(a, 0, 1, 2, 3)
	others := []api.Msg{forHash(w, api.Hash{}), forHash(w, api.Hash{0: 9, 31: 8}), forHash(w, api.Hash{0: 10, 31: 7})}
	for _, x := range append(far(w.Slot), 0, 49, 51, 60, 61) {
		m := w
		m.Slot = x
		others = append(others, m)
	}
	for _, m := range others {
		written(t, "not that", v, m, wrote, api.ErrProof)
		undecided(t, "not that", v, m, accepted)
	}
	for _, x := range append(far(w.Reg), 0, 1, 3, 40, 41) {
		written(t, "another regency", v, inReg(w, x), wrote, api.ErrProof)
		decided(t, "whatever regency", v, inReg(a, x), accepted, 2)
	}
}

// P17.2: at most 16 parts prove anything, whatever the others are, and wherever they stand.
func TestMostParts(t *testing.T) {
	w, a := ballot(api.MWrite), ballot(api.MAccept)
	for n := 3; n <= 2*room; n++ {
		for _, first := range []int{0, n - 3, n / 2} {
			for _, part := range [][]byte{nil, by(0, w), by(0, a)} {
				wrote, accepted := make([][]byte, n), make([][]byte, n)
				for i := range n {
					wrote[i], accepted[i] = part, part
				}
				first := min(first, n-3)
				copy(wrote[first:], byAll(w, 3, 1, 2))
				copy(accepted[first:], byAll(a, 3, 1, 2))
				if n <= room {
					written(t, "not too many", viewOf(15), w, wrote, api.OK)
					decided(t, "not too many", viewOf(15), a, accepted, 2)
				} else {
					written(t, "too many", viewOf(15), w, wrote, api.ErrProof)
					undecided(t, "too many", viewOf(15), a, accepted)
				}
			}
		}
	}
}

// P17.2: where the view isn't right nothing is proved, though all of its members vote.
func TestWrongViews(t *testing.T) {
	w, a := ballot(api.MWrite), ballot(api.MAccept)
	for _, mask := range samples.WrongMasks() {
		v := viewOf(mask)
		written(t, "no such members", v, w, byAll(w, samples.Members(mask)...), api.ErrProof)
		undecided(t, "no such members", v, a, byAll(a, samples.Members(mask)...))
	}
	for _, num := range append(samples.Numbers(), 59, 60, 61, 62) {
		v := api.View{Num: num, Mask: 15}
		if views.Right(v) {
			w.View, a.View = num, num
			written(t, "its number", v, w, byAll(w, 0, 1, 2), api.OK)
			decided(t, "its number", v, a, byAll(a, 0, 1, 2), 2)
			v.Num++
		}
		written(t, "another number", v, w, byAll(w, 0, 1, 2, 3), api.ErrProof)
		undecided(t, "another number", v, a, byAll(a, 0, 1, 2, 3))
	}
}

// P17.2: each regency can be the one, the first and the last among them.
func TestEachRegency(t *testing.T) {
	w, a := ballot(api.MWrite), ballot(api.MAccept)
	for reg := range regs {
		written(t, "in its regency", viewOf(15), inReg(w, reg), byAll(inReg(w, reg), 0, 1, 3), api.OK)
		decided(t, "in its regency", viewOf(15), a, byAll(inReg(a, reg), 0, 1, 3), reg)
		undecided(t, "few", viewOf(15), a, byAll(inReg(a, reg), 0, 1))
	}
}

// P17.2: members that vote in several regencies aren't put together.
func TestRegenciesApart(t *testing.T) {
	w, a := ballot(api.MWrite), ballot(api.MAccept)
	v := viewOf(15)
	wrote := append(byAll(w, 0, 1), byAll(inReg(w, 3), 2, 3)...)
	accepted := append(byAll(a, 0, 1), byAll(inReg(a, 3), 2, 3)...)
	for _, reg := range []int{2, 3} {
		written(t, "two and two", v, inReg(w, reg), wrote, api.ErrProof)
	}
	undecided(t, "two and two", v, a, accepted)
	wrote, accepted = append(wrote, by(0, inReg(w, 3))), append(accepted, by(0, inReg(a, 3)))
	written(t, "three in the other one", v, w, wrote, api.ErrProof)
	written(t, "three in this one", v, inReg(w, 3), wrote, api.OK)
	decided(t, "three in the one", v, a, accepted, 3)
}

// P17.2: of several regencies in which there is a quorum the least is told, in whatever order the parts stand; in a lesser one a quorum may lack.
func TestLeastRegency(t *testing.T) {
	a := ballot(api.MAccept)
	all := []int{1, 5, 40, 17}
	for _, order := range samples.Orders(all) {
		var parts [][]byte
		for _, reg := range order {
			parts = append(parts, byAll(inReg(a, reg), 3, 0, 1)...)
		}
		decided(t, "four quorums", viewOf(15), a, parts, 1)
		parts = append(parts, byAll(inReg(a, 0), 0, 1)...)
		decided(t, "four quorums, and fewer", viewOf(15), a, parts, 1)
		decided(t, "four quorums, and one more", viewOf(15), a, append(parts, by(2, inReg(a, 0))), 0)
		decided(t, "two quorums", viewOf(15), a, parts[:6], min(order[0], order[1]))
		decided(t, "the last two", viewOf(15), a, parts[6:], min(order[2], order[3]))
	}
}

// P17.3: of any two digests that are proved some more than the faults voted for both, by whatever members of each.
func TestQuorumsShare(t *testing.T) {
	for _, mask := range samples.RightMasks() {
		v := viewOf(mask)
		members := samples.Members(mask)
		w, a := ballot(api.MWrite), ballot(api.MAccept)
		firsts := proved(v, w, members)
		seconds := proved(v, forHash(w, api.Hash{8}), members)
		share(t, "written", firsts, seconds, samples.SharesOf(len(members)).Faults)
		firsts = proved(v, inReg(a, 40), members)
		for _, reg := range []int{40, 0} {
			seconds = proved(v, forHash(inReg(a, reg), api.Hash{8}), members)
			share(t, "decided", firsts, seconds, samples.SharesOf(len(members)).Faults)
		}
	}
}

// proved are the sets of members that vote for m, a bit each, of each list of parts that proves it.
func proved(v api.View, m api.Msg, members []int) []uint16 {
	votes := byAll(m, members...)
	var sets []uint16
	for chosen := range 1 << len(members) {
		var parts [][]byte
		for i := range members {
			if chosen>>i&1 == 1 {
				parts = append(parts, votes[i])
			}
		}
		e := certs.Written(table(), v, m.Reg, m.Slot, m.Hash, parts)
		if m.Kind == api.MAccept {
			_, e = certs.Decided(table(), v, m.Slot, m.Hash, parts)
		}
		if e != api.OK {
			continue
		}
		var set uint16
		for _, i := range certs.Who(table(), v, m, parts) {
			set |= 1 << i
		}
		sets = append(sets, set)
	}
	return sets
}

// share checks that each of the first sets has with each of the second more than so many members.
func share(t *testing.T, what string, firsts, seconds []uint16, faults int) {
	t.Helper()
	if len(firsts) < 5 || len(firsts) != len(seconds) {
		t.Errorf("%s: by %d sets, and by %d", what, len(firsts), len(seconds))
	}
	for _, first := range firsts {
		for _, second := range seconds {
			if bits.OnesCount16(first&second) <= faults {
				t.Errorf("%s: by %b, and by %b", what, first, second)
			}
		}
	}
}
