package certs_test

import (
	"bytes"
	"math/rand/v2"
	"slices"
	"testing"

	"consistory/api"
	"consistory/certs"
	"consistory/samples"
	"consistory/seals"
)

const (
	nodes = 16 // replicas that there may be
	regs  = 41 // regencies of a view, from 0 on
	room  = 16 // parts that a proof may have
)

// table has a seal of each replica.
func table() api.Keys {
	return samples.Table(chance(), nodes)
}

// viewOf is the view of which the ballot is, with those members.
func viewOf(mask uint16) api.View {
	return api.View{Num: 7, Mask: mask}
}

// ballot is what a vote of that kind is for.
func ballot(kind int) api.Msg {
	return api.Msg{Kind: kind, View: 7, Reg: 2, Slot: 50, Hash: api.Hash{0: 9, 31: 7}}
}

// inReg is m in another regency.
func inReg(m api.Msg, reg int) api.Msg {
	m.Reg = reg
	return m
}

// forHash is m for another digest.
func forHash(m api.Msg, h api.Hash) api.Msg {
	m.Hash = h
	return m
}

// by is m as that one seals it.
func by(from int, m api.Msg) []byte {
	return samples.By(seals.Seal, table(), from, m)
}

// byAll is m as each of them seals it.
func byAll(m api.Msg, from ...int) [][]byte {
	return samples.ByAll(seals.Seal, table(), m, from...)
}

// near are ballots that differ from m by one of the five things that are asked alone; each can be sealed.
func near(m api.Msg) []api.Msg {
	l := make([]api.Msg, 13)
	for i := range l {
		l[i] = m
	}
	l[0].Kind, l[1].View, l[2].Reg, l[3].Slot = m.Kind+1, m.View+1, m.Reg+1, m.Slot+1
	l[4].Kind, l[5].View, l[6].Reg, l[7].Slot = m.Kind-1, m.View-1, m.Reg-1, m.Slot-1
	l[8].Hash[0]++
	l[9].Hash[15]++
	l[10].Hash[31]++
	l[11].Hash = api.Hash{}
	l[12].Kind = 13 - m.Kind
	return l
}

// notCounting are parts that count for m, a ballot, in no view with its number: nobody's, or another ballot's. For none of these others more than two members vote, so that all together prove nothing.
func notCounting(m api.Msg) [][]byte {
	one := by(3, m)
	l := [][]byte{nil, {}, {1, 2}, make([]byte, 32), make([]byte, 74), samples.Cut(one), samples.Spoilt(one), append(slices.Clone(one), 0), one[:42], one[42:], bytes.Repeat(one, 2), make([]byte, 1<<16+1)}
	for _, other := range near(m) {
		l = append(l, byAll(other, 0, 1)...)
	}
	// What one says of itself as another isn't sealed by that one.
	for from := range nodes {
		b := by(from, m)
		b[1] = byte((from + 1) % nodes)
		l = append(l, b)
	}
	return l
}

// choice is a member that votes, and the place of the first of its parts that counts.
type choice struct {
	member, at int
}

// counts checks who votes for m among parts, and what is picked of it.
func counts(t *testing.T, what string, k api.Keys, v api.View, m api.Msg, parts [][]byte, want ...choice) {
	t.Helper()
	var who []int
	var picked [][]byte
	for _, c := range want {
		who, picked = append(who, c.member), append(picked, parts[c.at])
	}
	if l := certs.Who(k, v, m, parts); !slices.Equal(l, who) {
		t.Errorf("%s: of %v there vote %v; want %v", what, v, l, who)
	}
	if l := certs.Pick(k, v, m, parts); !slices.EqualFunc(l, picked, bytes.Equal) {
		t.Errorf("%s: of %v there are picked %x; want those of %v", what, v, l, want)
	}
}

// oneEach are choices of the members, of each the part of its own place.
func oneEach(members ...int) []choice {
	var l []choice
	for at, i := range members {
		l = append(l, choice{i, at})
	}
	return l
}

// written checks whether parts prove that m is written.
func written(t *testing.T, what string, v api.View, m api.Msg, parts [][]byte, want api.Errno) {
	t.Helper()
	if e := certs.Written(table(), v, m.Reg, m.Slot, m.Hash, parts); e != want {
		t.Errorf("%s: by %d parts of %v %v is written: %v; want %v", what, len(parts), v, samples.BriefMsg(m), e, want)
	}
}

// decided checks that parts prove m to be decided, in the regency reg.
func decided(t *testing.T, what string, v api.View, m api.Msg, parts [][]byte, reg int) {
	t.Helper()
	if r, e := certs.Decided(table(), v, m.Slot, m.Hash, parts); r != reg || e != api.OK {
		t.Errorf("%s: by %d parts of %v %v is decided: %d, %v; want %d", what, len(parts), v, samples.BriefMsg(m), r, e, reg)
	}
}

// undecided checks that parts don't prove m to be decided.
func undecided(t *testing.T, what string, v api.View, m api.Msg, parts [][]byte) {
	t.Helper()
	if r, e := certs.Decided(table(), v, m.Slot, m.Hash, parts); r != 0 || e != api.ErrProof {
		t.Errorf("%s: by %d parts of %v %v is decided: %d, %v", what, len(parts), v, samples.BriefMsg(m), r, e)
	}
}

// far are numbers that nothing in a message can be, such of which the lowest bits are those of x among them.
func far(x int) []int {
	l := []int{-1, -x, x + 1<<8, x + 1<<16, x + 1<<32, x - 1<<8, x - 1<<16, x - 1<<32}
	for _, n := range samples.Numbers() {
		if n < 0 || n > 60 {
			l = append(l, n)
		}
	}
	return l
}

// chance is a source of numbers that is always the same.
func chance() *rand.Rand {
	return rand.New(rand.NewPCG(17, 3))
}
