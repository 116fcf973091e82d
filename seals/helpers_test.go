package seals_test

import (
	"bytes"
	"crypto/hmac"
	"crypto/sha256"
	"math/rand/v2"
	"slices"
	"testing"

	"consistory/api"
	"consistory/samples"
	"consistory/seals"
	"consistory/wire"
)

const (
	nodes   = 16    // replicas that there may be
	room    = 65504 // bytes of a message, at most
	tagSize = 32    // bytes of its tag
	bare    = 42    // bytes of a message without body and parts
)

// table has n seals.
func table(n int) api.Keys {
	return samples.Table(chance(), n)
}

// tagOf is the library's tag of b by the key.
func tagOf(key, b []byte) []byte {
	h := hmac.New(sha256.New, key)
	h.Write(b)
	return h.Sum(nil)
}

// tagged is b, whatever it tells, and its tag by the key behind it.
func tagged(key, b []byte) []byte {
	return slices.Concat(b, tagOf(key, b))
}

// sealedOf is m, which is formed, as it is to be sealed.
func sealedOf(k api.Keys, m api.Msg) []byte {
	b, _ := wire.Put(m)
	return tagged(k.Seals[m.From], b)
}

// vote is a message with numbers and a digest alone.
func vote(from int) api.Msg {
	return api.Msg{Kind: api.MWrite, From: from, View: 1, Reg: 2, Slot: 50, Hash: api.Hash{0: 9, 31: 7}}
}

// withBody is a vote of 5 with a body of n bytes, and parts of so many bytes.
func withBody(n int, lengths ...int) api.Msg {
	r := chance()
	m := vote(5)
	m.Body = samples.Text(r, n)
	m.Parts = samples.Texts(r, lengths...)
	return m
}

// formedMsgs are messages that are formed.
func formedMsgs() []api.Msg {
	r := chance()
	l := []api.Msg{{Kind: api.MPropose}, {Kind: api.MReq, From: 15, View: 60, Reg: 40, Slot: 60}}
	for kind := 1; kind <= 12; kind++ {
		for from := range nodes {
			l = append(l, api.Msg{Kind: kind, From: from, View: r.IntN(61), Reg: r.IntN(41), Slot: r.IntN(61), Hash: samples.Hash(r)})
		}
	}
	for _, h := range samples.Hashes(r) {
		m := vote(3)
		m.Hash = h
		l = append(l, m)
	}
	// With its 42 bytes a message ends here just ahead of, at and behind the ends of blocks.
	for n := range 140 {
		l = append(l, withBody(n), withBody(0, n), withBody(n, 5, 0, n))
	}
	for _, n := range []int{1000, 16384, room - bare - 2} {
		l = append(l, withBody(n))
	}
	return append(l, withBody(20, make([]int, nodes)...), withBody(0, room-bare-3))
}

// refusal is bytes that tell no message, and why.
type refusal struct {
	b    []byte
	want api.Errno
}

// refusals are bytes of which layer 8 gets no message, by each of its errors.
func refusals() []refusal {
	whole, _ := wire.Put(withBody(20, 3, 0, 150))
	none, _ := wire.Put(vote(5))
	full := make([]byte, room+1)
	copy(full, none)
	many := append(slices.Clone(none[:bare-1]), 17)
	l := []refusal{
		{nil, api.ErrShort}, {whole[:1], api.ErrShort}, {whole[:bare], api.ErrShort}, {whole[:len(whole)-1], api.ErrShort}, {make([]byte, bare-1), api.ErrShort},
		{append(slices.Clone(none), 0), api.ErrForm}, {append(slices.Clone(none), make([]byte, 40)...), api.ErrForm}, {append(slices.Clone(none[:bare-1]), 0x80, 0), api.ErrForm},
		{many, api.ErrRange}, {append(slices.Clone(many), make([]byte, 17)...), api.ErrRange},
		{full, api.ErrFull}, {make([]byte, 2*room), api.ErrFull},
		{make([]byte, bare), api.ErrArg},
	}
	for _, at := range []struct{ i, x int }{{0, 0}, {0, 13}, {0, 255}, {1, 16}, {1, 255}, {3, 61}, {2, 1}, {5, 41}, {4, 1}, {7, 61}, {6, 1}} {
		b := slices.Clone(whole)
		b[at.i] = byte(at.x)
		l = append(l, refusal{b, api.ErrArg})
	}
	return l
}

// unsaid are messages that layer 8 doesn't put, and why.
func unsaid() map[api.Errno][]api.Msg {
	full := []api.Msg{withBody(room - bare - 1), withBody(0, room), withBody(1 << 17), withBody(0, make([]int, nodes+1)...)}
	var wrong []api.Msg
	for _, from := range []int{-1, -1 << 40, nodes, 1 << 8, 1<<32 + 1} {
		wrong = append(wrong, vote(from))
	}
	for range 8 {
		wrong = append(wrong, withBody(20, 3))
	}
	wrong[5].Kind, wrong[6].Kind, wrong[7].View, wrong[8].View = 0, 13, -1, 61
	wrong[9].Reg, wrong[10].Reg, wrong[11].Slot, wrong[12].Slot = -1, 41, -1, 61
	return map[api.Errno][]api.Msg{api.ErrFull: full, api.ErrArg: append(wrong, api.Msg{})}
}

// refusedSeal checks that m isn't sealed, but the error want told.
func refusedSeal(t *testing.T, what string, k api.Keys, m api.Msg, want api.Errno) {
	t.Helper()
	if b, e := seals.Seal(k, m); e != want || len(b) != 0 {
		t.Errorf("%s: %v is sealed by %d bytes, %v; want %v", what, samples.BriefMsg(m), len(b), e, want)
	}
}

// refusedOpen checks that b isn't opened, whoever the members are, but the error want told.
func refusedOpen(t *testing.T, what string, k api.Keys, b []byte, want api.Errno) {
	t.Helper()
	if m, e := seals.Open(k, b); e != want || !samples.SameMsg(m, api.Msg{}) {
		t.Errorf("%s: %d bytes: %v, %v; want %v", what, len(b), samples.BriefMsg(m), e, want)
	}
	for _, mask := range []uint16{0xffff, 0x0f, 0xf0, 0} {
		refusedOf(t, what, k, api.View{Mask: mask}, b, want)
	}
}

// refusedOf checks that b isn't opened as one of v's, but the error want told.
func refusedOf(t *testing.T, what string, k api.Keys, v api.View, b []byte, want api.Errno) {
	t.Helper()
	if m, e := seals.OpenOf(k, v, b); e != want || !samples.SameMsg(m, api.Msg{}) {
		t.Errorf("%s: %d bytes, of %v: %v, %v; want %v", what, len(b), v, samples.BriefMsg(m), e, want)
	}
}

// opened checks that b opens to m, and by a view too that has its sender.
func opened(t *testing.T, what string, k api.Keys, b []byte, m api.Msg) {
	t.Helper()
	if got, e := seals.Open(k, b); e != api.OK || !samples.SameMsg(got, m) {
		t.Errorf("%s: %v opens to %v, %v", what, samples.BriefMsg(m), samples.BriefMsg(got), e)
	}
	if got, e := seals.OpenOf(k, api.View{Mask: 0xffff}, b); e != api.OK || !samples.SameMsg(got, m) {
		t.Errorf("%s: %v opens by a view to %v, %v", what, samples.BriefMsg(m), samples.BriefMsg(got), e)
	}
}

// sealed checks that m is sealed by just want.
func sealed(t *testing.T, what string, k api.Keys, m api.Msg, want []byte) {
	t.Helper()
	if got, e := seals.Seal(k, m); e != api.OK || !bytes.Equal(got, want) {
		t.Errorf("%s: %v is sealed by %d bytes, %v", what, samples.BriefMsg(m), len(got), e)
	}
}

// chance is a source of numbers that is always the same.
func chance() *rand.Rand {
	return rand.New(rand.NewPCG(9, 32))
}
