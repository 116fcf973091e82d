package votes_test

import (
	"encoding/binary"
	"math/rand/v2"
	"slices"
	"testing"

	"consistory/api"
	"consistory/samples"
	"consistory/votes"
)

const (
	most  = 65536         // bytes of a vote, at most
	texts = 16            // texts of its Cert, at most
	start = 1 + 3*2 + 32  // bytes ahead of Batch
	bare  = start + 1 + 1 // bytes of a vote without Batch and Cert
)

// msg is a message with all that v has, its lists v's own: so what samples does with messages is done with votes.
func msg(v api.Vote) api.Msg {
	return api.Msg{Kind: v.Kind, View: v.View, Reg: v.Reg, Slot: v.Slot, Hash: v.Hash, Body: v.Batch, Parts: v.Cert}
}

// vote is a vote with all that m has but the sender, its lists m's own.
func vote(m api.Msg) api.Vote {
	return api.Vote{Kind: m.Kind, View: m.View, Reg: m.Reg, Slot: m.Slot, Hash: m.Hash, Batch: m.Body, Cert: m.Parts}
}

// same tells whether both votes are one: nothing is one with nil.
func same(v, w api.Vote) bool {
	return samples.SameMsg(msg(v), msg(w))
}

// brief tells of v what a line has room for.
func brief(v api.Vote) []int {
	return append(samples.BriefMsg(msg(v)), int(v.Hash[0]), len(bytesOf(v)))
}

// briefs tells of votes what a line has room for.
func briefs(l []api.Vote) [][]int {
	var all [][]int
	for _, v := range l {
		all = append(all, brief(v))
	}
	return all
}

// headOf are the bytes of v's numbers and digest, by the library, whether or not v is formed.
func headOf(v api.Vote) []byte {
	b := []byte{byte(v.Kind)}
	b = binary.BigEndian.AppendUint16(b, uint16(v.View))
	b = binary.BigEndian.AppendUint16(b, uint16(v.Reg))
	b = binary.BigEndian.AppendUint16(b, uint16(v.Slot))
	return append(b, v.Hash[:]...)
}

// bytesOf are v's bytes, whether or not it is formed.
func bytesOf(v api.Vote) []byte {
	return slices.Concat(headOf(v), samples.LengthAnd(v.Batch), samples.CountAnd(uint64(len(v.Cert)), v.Cert...))
}

// entered is the vote that a regency was entered.
func entered(view, reg int) api.Vote {
	return api.Vote{Kind: api.VReg, View: view, Reg: reg}
}

// wrote is the vote that a batch was written; mark tells it from others.
func wrote(view, reg, slot int, mark byte) api.Vote {
	return api.Vote{Kind: api.VWrite, View: view, Reg: reg, Slot: slot, Hash: api.Hash{0: mark, 31: 7}, Batch: []byte{mark, 1, 2}}
}

// accepted is the vote that a batch was accepted; mark tells it from others.
func accepted(view, reg, slot int, mark byte) api.Vote {
	v := wrote(view, reg, slot, mark)
	v.Kind, v.Cert = api.VAccept, [][]byte{{mark}, nil, {3, 4, mark}}
	return v
}

// withLists is an acceptance with a batch of n bytes, and a Cert of texts of so many bytes.
func withLists(n int, lengths ...int) api.Vote {
	r := chance()
	v := accepted(1, 2, 3, 4)
	v.Batch, v.Cert = samples.Text(r, n), samples.Texts(r, lengths...)
	return v
}

// written is the vote that a batch of n bytes was written.
func written(n int) api.Vote {
	v := withLists(n)
	v.Kind = api.VWrite
	return v
}

// fullest are votes that have just as many bytes as there may be.
func fullest() []api.Vote {
	const left = most - bare
	return []api.Vote{
		written(left - 2), // three bytes tell the length, not one
		withLists(left - 2),
		withLists(0, left-3),
		withLists(1, left-4),
		withLists(left-3, 0),
		withLists(left-15000-15-2, slices.Repeat([]int{1000 - 1}, 15)...),
		withLists(left-texts-2, make([]int, texts)...),
		withLists(0, 127, 128, 16383, 16384, left-1-127-2-128-2-16383-3-16384-3),
	}
}

// fullVotes are votes that are too much, by their bytes or by their texts, and would be right otherwise.
func fullVotes() []api.Vote {
	var l []api.Vote
	for _, v := range fullest() {
		longer := v
		longer.Batch = append(slices.Clone(v.Batch), 0)
		l = append(l, longer)
		if len(v.Cert) > 0 {
			longer = v
			longer.Cert = slices.Clone(v.Cert)
			longer.Cert[0] = append(slices.Clone(v.Cert[0]), 0)
			l = append(l, longer)
		}
	}
	for _, n := range []int{texts + 1, texts + 2, 127, 128, 255, 256 + 1, 1 << 16, 1 << 20} {
		l = append(l, withLists(0, make([]int, n)...))
	}
	for _, n := range []int{most - bare - 1, most - 1, most, most + 1, 1 << 21} {
		l = append(l, written(n), withLists(n), withLists(0, n), withLists(5, 0, n))
	}
	return append(l, withLists(0, slices.Repeat([]int{5000}, texts)...))
}

// formedVotes are votes that are formed.
func formedVotes() []api.Vote {
	r := chance()
	l := []api.Vote{entered(0, 0), entered(60, 40), {Kind: api.VWrite}, {Kind: api.VAccept}, wrote(60, 40, 60, 255), accepted(60, 40, 60, 255)}
	for _, h := range samples.Hashes(r) {
		v := wrote(1, 2, 3, 4)
		v.Hash = h
		l = append(l, v)
	}
	for _, n := range []int{0, 1, 126, 127, 128, 129, 300, 16383, 16384, 30000} {
		l = append(l, written(n), withLists(n), withLists(0, n), withLists(n, n), withLists(5, 0, n, 0))
	}
	for n := range texts + 1 {
		l = append(l, withLists(n, make([]int, n)...), withLists(0, slices.Repeat([]int{100 + n}, n)...))
	}
	for range 100 {
		view, reg, slot, mark := r.IntN(61), r.IntN(41), r.IntN(61), byte(r.IntN(256))
		v := accepted(view, reg, slot, mark)
		v.Hash, v.Batch = samples.Hash(r), samples.Text(r, r.IntN(200))
		for range r.IntN(texts - 2) {
			v.Cert = append(v.Cert, samples.Text(r, r.IntN(150)))
		}
		l = append(l, v, wrote(view, reg, slot, mark), entered(view, reg))
	}
	return append(l, fullest()...)
}

// setters set each number of a vote but the kind, in the order in which they are told.
func setters() []func(v *api.Vote, x int) {
	return []func(v *api.Vote, x int){
		func(v *api.Vote, x int) { v.View = x },
		func(v *api.Vote, x int) { v.Reg = x },
		func(v *api.Vote, x int) { v.Slot = x },
	}
}

// mostOf is the greatest number that each of them sets, if the vote is formed.
func mostOf(i int) int {
	return []int{60, 40, 60}[i]
}

// wrongVotes are votes that aren't formed, each by one thing alone, which their bytes can tell.
func wrongVotes() []api.Vote {
	l := []api.Vote{{}, {Kind: api.VReg, Slot: 1}, {Kind: api.VReg, Slot: 60}, {Kind: api.VReg, Batch: []byte{0}}}
	for _, kind := range []int{0, 4, 5, 12, 127, 128, 255} {
		for _, v := range []api.Vote{entered(1, 2), wrote(1, 2, 3, 4), accepted(1, 2, 3, 4)} {
			v.Kind = kind
			l = append(l, v)
		}
	}
	for i, set := range setters() {
		for _, x := range []int{mostOf(i) + 1, mostOf(i) + 2, 127, 128, 255, 256, 257, 4096, 65534, 65535} {
			l = append(l, changed(entered(0, 0), set, x), changed(wrote(1, 2, 3, 4), set, x), changed(accepted(1, 2, 3, 4), set, x))
		}
	}
	for i := range 32 {
		v := entered(1, 2)
		v.Hash[i] = 1 << (i % 8)
		l = append(l, v)
	}
	for _, cert := range [][][]byte{{nil}, {{0}}, {nil, nil}, {{1, 2}, {3}}, make([][]byte, texts)} {
		first, second := entered(1, 2), wrote(1, 2, 3, 4)
		first.Cert, second.Cert = cert, cert
		l = append(l, first, second)
	}
	return l
}

// farVotes are votes that aren't formed, each by one number, which their bytes can't tell: such of which the lowest bytes would be right among them.
func farVotes() []api.Vote {
	var l []api.Vote
	for _, x := range append(samples.Numbers(), 1<<16+2, 1<<32+2, -1<<16+2, -1<<32+2) {
		if x >= 0 && x < 1<<16 {
			continue
		}
		for _, set := range setters() {
			l = append(l, changed(entered(0, 0), set, x), changed(wrote(1, 2, 3, 4), set, x), changed(accepted(1, 2, 3, 4), set, x))
		}
	}
	for _, kind := range []int{-1, -2, -255, -254, -253, 256, 256 + 1, 256 + 2, 256 + 3, 1<<32 + 1, 1<<32 + 2, 1<<32 + 3} {
		for _, v := range []api.Vote{entered(1, 2), wrote(1, 2, 3, 4), accepted(1, 2, 3, 4)} {
			v.Kind = kind
			l = append(l, v)
		}
	}
	return l
}

// changed is v with a number set to x.
func changed(v api.Vote, set func(v *api.Vote, x int), x int) api.Vote {
	set(&v, x)
	return v
}

// refusedPut checks that v isn't put, but the error want told, and that no book takes it.
func refusedPut(t *testing.T, what string, v api.Vote, want api.Errno) {
	t.Helper()
	if b, e := votes.Put(v); e != want || len(b) != 0 {
		t.Errorf("%s: %v is put by %d bytes, %v; want %v", what, brief(v), len(b), e, want)
	}
	k := votes.New()
	if e := k.Take(v); e != api.ErrArg {
		t.Errorf("%s: %v is taken with %v", what, brief(v), e)
	}
	tells(t, what, k, nil)
}

// refusedGet checks that b tells no vote, but the error want.
func refusedGet(t *testing.T, what string, b []byte, want api.Errno) {
	t.Helper()
	if v, e := votes.Get(b); e != want || !same(v, api.Vote{}) {
		t.Errorf("%s: %d bytes: %v, %v; want %v", what, len(b), brief(v), e, want)
	}
}

// bookOf is a book that took those votes, each without an error.
func bookOf(t *testing.T, l ...api.Vote) *votes.Book {
	t.Helper()
	k := votes.New()
	for i, v := range l {
		if e := k.Take(v); e != api.OK {
			t.Errorf("vote %d, %v: %v", i, brief(v), e)
		}
	}
	return k
}

// chance is a source of numbers that is always the same.
func chance() *rand.Rand {
	return rand.New(rand.NewPCG(13, 4))
}
