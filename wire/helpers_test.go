package wire_test

import (
	"encoding/binary"
	"math/rand/v2"
	"slices"
	"testing"

	"consistory/api"
	"consistory/samples"
	"consistory/wire"
)

const (
	room  = 65504         // bytes of a message, at most
	parts = 16            // parts of a message, at most
	head  = 1 + 1 + 3*2   // bytes of the five numbers
	start = head + 32     // bytes ahead of Body
	bare  = start + 1 + 1 // bytes of a message without Body and parts
)

// number is one of a message's: how it is set, how many bytes tell it, and what it may be.
type number struct {
	name        string
	set         func(m *api.Msg, x int)
	size        int
	least, most int
}

// numbers are the five, written out by hand.
func numbers() []number {
	return []number{
		{"the kind", func(m *api.Msg, x int) { m.Kind = x }, 1, 1, 12},
		{"the sender", func(m *api.Msg, x int) { m.From = x }, 1, 0, 15},
		{"the view", func(m *api.Msg, x int) { m.View = x }, 2, 0, 60},
		{"the regency", func(m *api.Msg, x int) { m.Reg = x }, 2, 0, 40},
		{"the slot", func(m *api.Msg, x int) { m.Slot = x }, 2, 0, 60},
	}
}

// headOf are the bytes of m's numbers and digest, by the library, whether or not m is formed.
func headOf(m api.Msg) []byte {
	b := []byte{byte(m.Kind), byte(m.From)}
	for _, x := range []int{m.View, m.Reg, m.Slot} {
		b = binary.BigEndian.AppendUint16(b, uint16(x))
	}
	return append(b, m.Hash[:]...)
}

// bytesOf are m's bytes, whether or not it is formed.
func bytesOf(m api.Msg) []byte {
	return slices.Concat(headOf(m), samples.LengthAnd(m.Body), samples.CountAnd(uint64(len(m.Parts)), m.Parts...))
}

// vote is a message with numbers and a digest alone.
func vote() api.Msg {
	return api.Msg{Kind: api.MWrite, From: 3, View: 1, Reg: 2, Slot: 50, Hash: api.Hash{0: 9, 31: 7}}
}

// withBody is a vote with a body of n bytes, and parts of so many bytes.
func withBody(n int, lengths ...int) api.Msg {
	r := chance()
	m := vote()
	m.Body = samples.Text(r, n)
	m.Parts = samples.Texts(r, lengths...)
	return m
}

// fullest are messages that have just room bytes.
func fullest() []api.Msg {
	const left = room - bare
	return []api.Msg{
		withBody(left - 2), // three bytes tell the length, not one
		withBody(0, left-3),
		withBody(1, left-4),
		withBody(left-3, 0),
		withBody(30000, left-30000-5),
		filled(withBody(0, slices.Repeat([]int{4000}, parts-1)...)),
		filled(withBody(100, 127, 128, 16383, 16384)),
		filled(withBody(left-1000, make([]int, parts-1)...)),
	}
}

// filled is m with one more part, by which it has just room bytes.
func filled(m api.Msg) api.Msg {
	left := room - len(bytesOf(m))
	m.Parts = append(m.Parts, make([]byte, left-len(binary.AppendUvarint(nil, uint64(left)))))
	return m
}

// formedMsgs are messages that are formed.
func formedMsgs() []api.Msg {
	r := chance()
	l := []api.Msg{{Kind: api.MPropose}, vote(), {Kind: api.MReq, From: 15, View: 60, Reg: 40, Slot: 60}}
	for _, h := range samples.Hashes(r) {
		m := vote()
		m.Hash = h
		l = append(l, m)
	}
	for _, n := range []int{1, 2, 126, 127, 128, 129, 300, 16383, 16384, 30000} {
		l = append(l, withBody(n), withBody(0, n), withBody(n, n), withBody(5, 0, n, 0), withBody(n, 7, 8))
	}
	for n := range parts + 1 {
		l = append(l, withBody(n, slices.Repeat([]int{0}, n)...), withBody(0, slices.Repeat([]int{100 + n}, n)...), withBody(40, make([]int, n)...))
	}
	for range 200 {
		m := api.Msg{Kind: 1 + r.IntN(12), From: r.IntN(16), View: r.IntN(61), Reg: r.IntN(41), Slot: r.IntN(61), Hash: samples.Hash(r)}
		m.Body = samples.Text(r, r.IntN(200))
		for range r.IntN(parts + 1) {
			m.Parts = append(m.Parts, samples.Text(r, r.IntN(150)))
		}
		l = append(l, m)
	}
	return append(l, fullest()...)
}

// wrongMsgs are messages that aren't formed, each by one number, which their bytes can tell.
func wrongMsgs() []api.Msg {
	var l []api.Msg
	for _, n := range numbers() {
		for _, x := range []int{n.least - 1, n.most + 1, n.most + 2, 127, 128, 254, 255, 256, 257, 4096, 65534, 65535} {
			if x < 0 || x>>(8*n.size) > 0 {
				continue
			}
			l = append(l, changed(vote(), n, x), changed(withBody(3, 1, 0, 200), n, x))
		}
	}
	return l
}

// farMsgs are messages that aren't formed, each by one number, which their bytes can't tell: such of which the lowest bytes would be right among them.
func farMsgs() []api.Msg {
	var l []api.Msg
	for _, n := range numbers() {
		for _, x := range append(samples.Numbers(), 1<<8+2, 1<<16+2, 1<<32+2, -1<<8+2, -1<<16+2, -1<<32+2) {
			if x < 0 || x>>(8*n.size) > 0 {
				l = append(l, changed(vote(), n, x))
			}
		}
	}
	return l
}

// fullMsgs are messages that are too much, by their bytes or by their parts, and would be right otherwise.
func fullMsgs() []api.Msg {
	var l []api.Msg
	for _, m := range fullest() {
		long := m
		long.Body = append(slices.Clone(m.Body), 0)
		l = append(l, long)
		if len(m.Parts) > 0 {
			long = m
			long.Parts = slices.Clone(m.Parts)
			long.Parts[0] = append(slices.Clone(m.Parts[0]), 0)
			l = append(l, long)
		}
		if len(m.Parts) < parts {
			long = m
			long.Parts = append(slices.Clone(m.Parts), nil)
			l = append(l, long)
		}
	}
	for _, n := range []int{parts + 1, parts + 2, 127, 128, 1000, 65535, 65536, 1 << 20} {
		l = append(l, withBody(0, make([]int, n)...))
	}
	for _, n := range []int{room - 1, room, api.MaxText - 1, api.MaxText, api.MaxText + 1, 1 << 21} {
		l = append(l, withBody(n), withBody(0, n), withBody(n, n))
	}
	return append(l, withBody(0, slices.Repeat([]int{5000}, parts)...))
}

// changed is m, one number of which is x.
func changed(m api.Msg, n number, x int) api.Msg {
	n.set(&m, x)
	return m
}

// brief tells of m what a line has room for.
func brief(m api.Msg) []int {
	return append(samples.BriefMsg(m), len(bytesOf(m)))
}

// refusedPut checks that m isn't put, but tells the error want.
func refusedPut(t *testing.T, what string, m api.Msg, want api.Errno) {
	t.Helper()
	if b, e := wire.Put(m); e != want || len(b) != 0 {
		t.Errorf("%s: %v is put by %d bytes, %v; want %v", what, brief(m), len(b), e, want)
	}
}

// refusedGet checks that b tells no message, but the error want.
func refusedGet(t *testing.T, what string, b []byte, want api.Errno) {
	t.Helper()
	if m, e := wire.Get(b); e != want || !samples.SameMsg(m, api.Msg{}) {
		t.Errorf("%s: %d bytes: %v, %v; want %v", what, len(b), brief(m), e, want)
	}
}

// chance is a source of numbers that is always the same.
func chance() *rand.Rand {
	return rand.New(rand.NewPCG(8, 12))
}
