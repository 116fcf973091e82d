package inst_test

import (
	"bytes"
	"crypto/sha256"
	"math/rand/v2"
	"slices"
	"testing"

	"consistory/api"
	"consistory/inst"
	"consistory/samples"
	"consistory/seals"
)

const (
	nodes = 16 // replicas that there may be
	regs  = 41 // regencies of a view, from 0 on
	room  = 64 // batches that an instance keeps
	slot  = 50 // the slot of which the ballots are
)

// table has a seal of each replica.
func table() api.Keys {
	return samples.Table(chance(), nodes)
}

// viewOf is the view of which the ballots are, with those members.
func viewOf(mask uint16) api.View {
	return api.View{Num: 7, Mask: mask}
}

// instOf is an instance of the slot and the view of which the ballots are, with those members.
func instOf(mask uint16) *inst.Inst {
	return inst.New(table(), viewOf(mask), slot)
}

// digest is one that its mark tells from others.
func digest(mark byte) api.Hash {
	return api.Hash{0: mark, 31: 7}
}

// wrote is what is told by who writes the mark's batch in a regency.
func wrote(reg int, mark byte) api.Msg {
	return api.Msg{Kind: api.MWrite, View: 7, Reg: reg, Slot: slot, Hash: digest(mark)}
}

// accepted is what is told by who accepts the mark's batch in a regency.
func accepted(reg int, mark byte) api.Msg {
	m := wrote(reg, mark)
	m.Kind = api.MAccept
	return m
}

// by is m as that one seals it.
func by(from int, m api.Msg) []byte {
	return samples.By(seals.Seal, table(), from, m)
}

// byAll is m as each of them seals it.
func byAll(m api.Msg, from ...int) [][]byte {
	return samples.ByAll(seals.Seal, table(), m, from...)
}

// outcome is what a quorum voted for, if one did: in which regency, for which digest, and its votes.
type outcome struct {
	reg   int
	hash  api.Hash
	votes [][]byte
	found bool
}

// won is the outcome that a quorum voted in a regency for the mark's batch, by those votes.
func won(reg int, mark byte, votes ...[]byte) outcome {
	return outcome{reg, digest(mark), votes, true}
}

// writtenIn is what a quorum wrote in that regency.
func writtenIn(x *inst.Inst, reg int) outcome {
	h, l, found := x.Written(reg)
	if !found {
		return outcome{0, h, l, false}
	}
	return outcome{reg, h, l, found}
}

// acceptedBy is what a quorum accepted.
func acceptedBy(x *inst.Inst) outcome {
	reg, h, l, found := x.Accepted()
	return outcome{reg, h, l, found}
}

// is checks that the outcome is that one, to the last byte of its votes.
func (o outcome) is(t *testing.T, what string, want outcome) {
	t.Helper()
	if o.reg != want.reg || o.hash != want.hash || o.found != want.found || !slices.EqualFunc(o.votes, want.votes, bytes.Equal) {
		t.Errorf("%s: in %d, for %x, by %x: %v; want in %d, for %x, by %x: %v", what, o.reg, o.hash[:1], senders(o.votes), o.found, want.reg, want.hash[:1], senders(want.votes), want.found)
	}
}

// senders are whom the votes name as theirs.
func senders(votes [][]byte) []byte {
	var l []byte
	for _, b := range votes {
		l = append(l, b[1])
	}
	return l
}

// unwritten checks that no quorum wrote anything in those regencies.
func unwritten(t *testing.T, what string, x *inst.Inst, regs ...int) {
	t.Helper()
	for _, reg := range regs {
		writtenIn(x, reg).is(t, what, outcome{})
	}
}

// allRegs are all regencies that there are, and what is near them.
func allRegs() []int {
	var l []int
	for reg := -3; reg < regs+3; reg++ {
		l = append(l, reg)
	}
	return l
}

// unvoted checks that nothing was written, nor accepted.
func unvoted(t *testing.T, what string, x *inst.Inst) {
	t.Helper()
	unwritten(t, what, x, allRegs()...)
	acceptedBy(x).is(t, what, outcome{})
}

// has checks that a batch is kept.
func has(t *testing.T, what string, x *inst.Inst, batch []byte) {
	t.Helper()
	if b, kept := x.Batch(sha256.Sum256(batch)); !kept || !bytes.Equal(b, batch) {
		t.Errorf("%s: of the batch of %d bytes there are %d: %v", what, len(batch), len(b), kept)
	}
}

// lacks checks that of a digest there is no batch.
func lacks(t *testing.T, what string, x *inst.Inst, h api.Hash) {
	t.Helper()
	if b, kept := x.Batch(h); kept || len(b) != 0 {
		t.Errorf("%s: of %x there are %d bytes: %v", what, h[:2], len(b), kept)
	}
}

// learns checks what is told of a batch, kept or not.
func learns(t *testing.T, what string, x *inst.Inst, batches ...[]byte) {
	t.Helper()
	for _, batch := range batches {
		if h := x.Learn(batch); h != sha256.Sum256(batch) {
			t.Errorf("%s: of the batch of %d bytes the digest is %x", what, len(batch), h)
		}
	}
}

// batches are so many, no two alike.
func batches(n int) [][]byte {
	var l [][]byte
	for i := range n {
		l = append(l, []byte{byte(i), byte(i >> 8), 5})
	}
	return l
}

// chance is a source of numbers that is always the same.
func chance() *rand.Rand {
	return rand.New(rand.NewPCG(18, 4))
}
