package certs_test

import (
	"bytes"
	"slices"
	"sync"
	"testing"

	"consistory/api"
	"consistory/certs"
	"consistory/samples"
	"consistory/seals"
)

// Ways: as many members as there may be are each found in the set, whatever the view.
func TestAllNodes(t *testing.T) {
	m := ballot(api.MAccept)
	var all []int
	for i := range nodes {
		all = append(all, i)
	}
	counts(t, "all", table(), viewOf(0xffff), m, byAll(m, all...), oneEach(all...)...)
	slices.Reverse(all)
	want := oneEach(all...)
	slices.Reverse(want)
	counts(t, "all, falling", table(), viewOf(0xffff), m, byAll(m, all...), want...)
}

// R3: nil and nothing are one: as parts, as a part, as seals.
func TestNilIsNothing(t *testing.T) {
	m := ballot(api.MWrite)
	for _, parts := range [][][]byte{nil, {}, {nil}, {{}}, {nil, {}, nil}} {
		for _, k := range []api.Keys{table(), {}, {Seals: [][]byte{}}} {
			counts(t, "nothing", k, viewOf(15), m, parts)
		}
		written(t, "nothing", viewOf(15), m, parts, api.ErrProof)
		undecided(t, "nothing", viewOf(15), m, parts)
	}
	counts(t, "no seals", api.Keys{}, viewOf(15), m, byAll(m, 0, 1, 2, 3))
	one, other := m, m
	one.Body, one.Parts, other.Body, other.Parts = nil, nil, []byte{}, [][]byte{}
	for _, n := range []api.Msg{one, other} {
		counts(t, "nil or nothing", table(), viewOf(15), n, byAll(n, 2, 1), choice{1, 1}, choice{2, 0})
	}
}

// mixed are parts of all sorts, such that prove m, of members 0 to 3, among them.
func mixed(m api.Msg) [][]byte {
	wrong := notCounting(m)
	l := append(wrong[:8:8], wrong[14:16]...)
	return append(l, by(3, samples.WithBody(m, 1)), by(3, m), by(1, m), by(9, m), by(0, m))
}

// R4: nothing that is handed in is changed, spare room included, and what is behind it tells nothing.
func TestHandedInStays(t *testing.T) {
	for _, kind := range []int{api.MWrite, api.MAccept} {
		m, mStays := samples.RoomyMsg(samples.WithBody(ballot(kind), 7))
		plain := mixed(ballot(kind))
		parts, partsStay := samples.RoomyTexts(plain)
		k := table()
		seals, sealsStay := samples.RoomyTexts(k.Seals)
		k.Seals = seals
		for _, v := range []api.View{viewOf(15), viewOf(7), viewOf(0xffff), {Num: 8, Mask: 15}} {
			for _, n := range []api.Msg{m, inReg(m, 3), inReg(m, -1)} {
				who, picked := certs.Who(k, v, n, parts), certs.Pick(k, v, n, parts)
				if !slices.Equal(who, certs.Who(table(), v, n, plain)) || !slices.EqualFunc(picked, certs.Pick(table(), v, n, plain), bytes.Equal) {
					t.Errorf("of %v there vote %v, with room behind", v, who)
				}
				written := certs.Written(k, v, n.Reg, n.Slot, n.Hash, parts)
				reg, e := certs.Decided(k, v, n.Slot, n.Hash, parts)
				plainReg, plainE := certs.Decided(table(), v, n.Slot, n.Hash, plain)
				if written != certs.Written(table(), v, n.Reg, n.Slot, n.Hash, plain) || reg != plainReg || e != plainE {
					t.Errorf("by %v other things are proved, with room behind", v)
				}
			}
		}
		if !mStays() || !partsStay() || !sealsStay() {
			t.Error("what is handed in is changed")
		}
	}
}

// R4: members that are told are new memory.
func TestMembersAreNew(t *testing.T) {
	m := ballot(api.MWrite)
	v, parts := viewOf(15), mixed(m)
	first, second := certs.Who(table(), v, m, parts), certs.Who(table(), v, m, parts)
	first = first[:cap(first)]
	for i := range first {
		first[i] = -5
	}
	want := []int{0, 1, 3}
	if !slices.Equal(second, want) || !slices.Equal(certs.Who(table(), v, m, parts), want) {
		t.Error("they change with an earlier answer")
	}
}

// R4: parts that are picked are new memory, spare room included: they share none with those that were handed in, with an earlier answer, or with each other.
func TestPickedIsNew(t *testing.T) {
	m := ballot(api.MWrite)
	v, parts := viewOf(15), mixed(m)
	n := len(parts)
	view, stays := samples.RoomyTexts(parts)
	first, second := certs.Pick(table(), v, m, view), certs.Pick(table(), v, m, view)
	want := [][]byte{parts[n-1], parts[n-3], parts[n-5]}
	if !slices.EqualFunc(first, want, bytes.Equal) || !samples.Apart(slices.Concat(first, second)) || !stays() {
		t.Error("picked parts share memory")
	}
	first, second = certs.Pick(table(), v, m, view), certs.Pick(table(), v, m, view)
	_ = append(first, []byte{1})
	clear(first[:cap(first)])
	for _, part := range view {
		samples.Spoil(part)
	}
	clear(view)
	if !slices.EqualFunc(second, want, bytes.Equal) {
		t.Error("picked parts change with what was handed in, or with an earlier answer")
	}
}

// R4: so they are where parts share memory, being one and the same.
func TestPickedOfOne(t *testing.T) {
	m := ballot(api.MWrite)
	k := api.Keys{Seals: [][]byte{{1}, {1}}}
	m.From = 0
	zero, _ := seals.Seal(k, m)
	m.From = 1
	one, _ := seals.Seal(k, m)
	whole := slices.Concat(zero, one)
	parts := [][]byte{whole[:len(zero)], whole[len(zero):], whole[:len(zero)]}
	l := certs.Pick(k, viewOf(3), m, parts)
	if len(l) != 2 || !samples.Apart(append(l, whole)) {
		t.Errorf("%d parts are picked, or they share memory", len(l))
	}
}

// R5: an answer hangs on the arguments alone, not on the calls ahead of it or beside it.
func TestSameAgain(t *testing.T) {
	w, a := ballot(api.MWrite), ballot(api.MAccept)
	wrote, accepted := mixed(w), mixed(a)
	var all sync.WaitGroup
	for range 4 {
		all.Go(func() {
			n := len(wrote)
			for range 50 {
				counts(t, "again", table(), viewOf(15), w, wrote, choice{0, n - 1}, choice{1, n - 3}, choice{3, n - 5})
				counts(t, "others", table(), viewOf(15), w, accepted)
				counts(t, "of another view", table(), viewOf(14), w, wrote, choice{1, n - 3}, choice{3, n - 5})
				written(t, "again", viewOf(15), w, wrote, api.OK)
				written(t, "others", viewOf(15), w, accepted, api.ErrProof)
				undecided(t, "others", viewOf(15), a, wrote)
				decided(t, "again", viewOf(15), a, accepted, 2)
			}
		})
	}
	all.Wait()
}

// R1: every call ends and none panics, at all arguments.
func TestNeverPanics(t *testing.T) {
	r := chance()
	numbers := samples.Numbers()
	some := func() int { return numbers[r.IntN(len(numbers))] }
	for range 2000 {
		k := samples.Table(r, r.IntN(20))
		v := api.View{Num: some(), Mask: uint16(r.Uint64())}
		m := samples.NearMsg(r)
		sealed, _ := seals.Seal(k, m)
		parts := append(samples.Texts(r, r.IntN(100), r.IntN(3), 74), sealed)
		for range r.IntN(20) {
			parts = append(parts, parts[r.IntN(len(parts))])
		}
		for _, v := range []api.View{v, {Num: m.View, Mask: v.Mask}, {Num: m.View, Mask: 15}, {}} {
			for _, n := range []api.Msg{m, samples.WildMsg(r), {}} {
				certs.Who(k, v, n, parts)
				certs.Pick(k, v, n, parts)
				certs.Written(k, v, n.Reg, n.Slot, n.Hash, parts)
				certs.Decided(k, v, n.Slot, n.Hash, parts)
			}
			certs.Written(k, v, some(), some(), m.Hash, parts)
			certs.Decided(k, v, some(), m.Hash, parts)
		}
	}
}
