package certs_test

import (
	"bytes"
	"math/rand/v2"
	"slices"
	"testing"

	"consistory/api"
	"consistory/certs"
	"consistory/samples"
)

// told is a part that a test made: of what message, by whom, and whether it is spoilt.
type told struct {
	part   []byte
	m      api.Msg
	by     int
	spoilt bool
}

// model tells who votes by what the parts were made of: it opens none.
type model []told

// parts are the parts, as they stand.
func (l model) parts() [][]byte {
	var all [][]byte
	for _, x := range l {
		all = append(all, x.part)
	}
	return all
}

// choices are the members of v that vote for m, rising, each with the place of the first part that counts.
func (l model) choices(v api.View, m api.Msg) []choice {
	var all []choice
	for _, i := range samples.Members(v.Mask) {
		at := slices.IndexFunc(l, func(x told) bool {
			right := x.by == i && !x.spoilt && x.m.View == v.Num
			return right && x.m.Kind == m.Kind && x.m.View == m.View && x.m.Reg == m.Reg && x.m.Slot == m.Slot && x.m.Hash == m.Hash
		})
		if at >= 0 {
			all = append(all, choice{i, at})
		}
	}
	return all
}

// proves tells whether the parts prove m to the members of v.
func (l model) proves(v api.View, m api.Msg) bool {
	quorum := samples.SharesOf(len(samples.Members(v.Mask))).Quorum
	return quorum > 0 && v.Num >= 0 && v.Num <= 60 && len(l) <= room && len(l.choices(v, m)) >= quorum
}

// decides is the least regency in which the parts prove m, if there is one.
func (l model) decides(v api.View, m api.Msg) (int, api.Errno) {
	for reg := range regs {
		if l.proves(v, inReg(m, reg)) {
			return reg, api.OK
		}
	}
	return 0, api.ErrProof
}

// anyBallot is a vote for one of few things, often for that of m.
func anyBallot(r *rand.Rand, m api.Msg) api.Msg {
	m.Reg = []int{1, 2, 2, 2, 2, 2, 2, 3, 40}[r.IntN(9)]
	if r.IntN(5) == 0 {
		m = samples.Changed(r, m)
	}
	return m
}

// anyParts are as many parts as n, votes of these for few things, some of them spoilt.
func anyParts(r *rand.Rand, m api.Msg, n int, from []int) model {
	var l model
	for range n {
		x := told{m: anyBallot(r, m), by: from[r.IntN(len(from))]}
		x.part = by(x.by, x.m)
		if r.IntN(10) == 0 {
			x.spoilt = true
			i := r.IntN(len(x.part))
			x.part = slices.Concat(x.part[:i], []byte{x.part[i] ^ byte(1+r.IntN(255))}, x.part[i+1:])
		}
		l = append(l, x)
	}
	return l
}

// agrees checks that all that is told of m by the parts is as the model tells it.
func (l model) agrees(t *testing.T, v api.View, m api.Msg, proofs map[api.Errno]int) {
	t.Helper()
	parts := l.parts()
	counts(t, "any parts", table(), v, m, parts, l.choices(v, m)...)
	w := m
	w.Kind, w.View = api.MWrite, v.Num
	want := api.ErrProof
	if l.proves(v, w) {
		want = api.OK
	}
	written(t, "any parts", v, w, parts, want)
	a := w
	a.Kind = api.MAccept
	reg, e := l.decides(v, a)
	if r, f := certs.Decided(table(), v, a.Slot, a.Hash, parts); r != reg || f != e {
		t.Errorf("by %d parts of %v %v is decided: %d, %v; want %d, %v", len(parts), v, samples.BriefMsg(a), r, f, reg, e)
	}
	proofs[want]++
	proofs[e]++
}

// P17.1, P17.2: whatever the parts are, all is told as one tells it who knows how they were made.
func TestAnyParts(t *testing.T) {
	r := chance()
	proofs := map[api.Errno]int{}
	for round := range 1500 {
		kind := []int{api.MWrite, api.MAccept}[round%2]
		m := ballot(kind)
		mask := append(samples.RightMasks(), samples.WrongMasks()...)[r.IntN(20)]
		from := append(samples.Members(mask), r.IntN(nodes))
		l := anyParts(r, m, r.IntN(20), from)
		for _, asked := range []api.Msg{m, anyBallot(r, m), inReg(m, 3)} {
			l.agrees(t, viewOf(mask), asked, proofs)
		}
	}
	if proofs[api.OK] < 500 || proofs[api.ErrProof] < 500 {
		t.Errorf("proofs: %v", proofs)
	}
}

// P17.3: of whatever parts, at once or apart, of any two digests that are proved some more than the faults voted for both.
func TestAnyProofsShare(t *testing.T) {
	r := chance()
	both := 0
	for round := range 1200 {
		kind := []int{api.MWrite, api.MAccept}[round%2]
		one := ballot(kind)
		other := forHash(one, api.Hash{5})
		mask := samples.RightMasks()[r.IntN(14)]
		v, members := viewOf(mask), samples.Members(mask)
		var parts [][]byte
		for len(parts) < room {
			m := []api.Msg{one, other}[r.IntN(2)]
			parts = append(parts, by(members[r.IntN(len(members))], m))
		}
		if !provesBoth(v, one, other, parts) {
			continue
		}
		both++
		shared := 0
		for _, i := range certs.Who(table(), v, one, parts) {
			if slices.Contains(certs.Who(table(), v, other, parts), i) {
				shared++
			}
		}
		if shared <= samples.SharesOf(len(members)).Faults {
			t.Errorf("of %v %d voted for both", v, shared)
		}
	}
	if both < 100 {
		t.Errorf("%d times both were proved", both)
	}
}

// provesBoth tells whether the parts prove both, of one kind.
func provesBoth(v api.View, one, other api.Msg, parts [][]byte) bool {
	for _, m := range []api.Msg{one, other} {
		e := certs.Written(table(), v, m.Reg, m.Slot, m.Hash, parts)
		if m.Kind == api.MAccept {
			_, e = certs.Decided(table(), v, m.Slot, m.Hash, parts)
		}
		if e != api.OK {
			return false
		}
	}
	return true
}

// What the model picks is what was made, so that it can be held against certs.
func TestModel(t *testing.T) {
	m := ballot(api.MWrite)
	l := model{{by(3, m), m, 3, false}, {by(1, m), m, 1, true}, {by(1, samples.WithBody(m, 1)), samples.WithBody(m, 1), 1, false}, {by(9, m), m, 9, false}, {by(0, inReg(m, 3)), inReg(m, 3), 0, false}}
	if got := l.choices(viewOf(15), m); !slices.Equal(got, []choice{{1, 2}, {3, 0}}) || !bytes.Equal(l.parts()[3], by(9, m)) {
		t.Error(got)
	}
	l = append(l, told{by(0, m), m, 0, false})
	if !l.proves(viewOf(15), m) || l.proves(viewOf(31), m) || l.proves(viewOf(11), m) {
		t.Error("it proves something else")
	}
	if reg, e := l.decides(viewOf(15), m); reg != 2 || e != api.OK {
		t.Error(reg, e)
	}
}
