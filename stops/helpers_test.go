package stops_test

import (
	"bytes"
	"crypto/sha256"
	"math/rand/v2"
	"slices"
	"sync"
	"testing"

	"consistory/api"
	"consistory/keys"
	"consistory/reqs"
	"consistory/samples"
	"consistory/seals"
	"consistory/stops"
)

const (
	nodes = 16 // replicas that there may be
	regs  = 41 // regencies of a view, from 0 on
	room  = 16 // parts that a message may have
	first = 40 // the first slot of the view
	slot  = 50 // a later one that was decided
	next  = 6  // the regency to which members go on
)

// master is the digest of which all keys are made.
func master() api.Hash {
	return api.Hash{0: 19, 31: 4}
}

// made is the table, which takes its time.
var made = sync.OnceValue(func() api.Keys { return keys.Table(master()) })

// table has a seal of each replica and a root of each client.
func table() api.Keys {
	k := api.Keys{Roots: slices.Clone(made().Roots)}
	for _, seal := range made().Seals {
		k.Seals = append(k.Seals, bytes.Clone(seal))
	}
	return k
}

// own is r, signed as its client signs it.
func own(r api.Req) api.Req {
	r.Sig, _ = keys.Sign(keys.Seed(master(), r.Client), r.Seq-1, reqs.Text(r))
	return r
}

// signed are batches, no two alike, of requests that their clients signed.
var signed = sync.OnceValue(func() [][]byte {
	var l [][]byte
	for client := range 5 {
		b, e := reqs.PutBatch([]api.Req{own(samples.ReqOf(client, 1)), own(samples.ReqOf(client, 8-client))})
		if e != api.OK {
			panic(e)
		}
		l = append(l, b)
	}
	return l
})

// batch is one of five, which its mark tells.
func batch(mark int) []byte {
	return bytes.Clone(signed()[mark])
}

// digest is the one of a batch.
func digest(mark int) api.Hash {
	return sha256.Sum256(signed()[mark])
}

// viewOf is the view of which the messages are, with those members.
func viewOf(mask uint16) api.View {
	return api.View{Num: 7, Mask: mask}
}

// stop is what is told by who wants a regency.
func stop(reg int) api.Msg {
	return api.Msg{Kind: api.MStop, View: 7, Reg: reg}
}

// vote is what is told by who voted for the mark's batch.
func vote(kind, reg, slot, mark int) api.Msg {
	return api.Msg{Kind: kind, View: 7, Reg: reg, Slot: slot, Hash: digest(mark)}
}

// by is m as that one seals it.
func by(from int, m api.Msg) []byte {
	return samples.By(seals.Seal, made(), from, m)
}

// byAll is m as each of them seals it.
func byAll(m api.Msg, from ...int) [][]byte {
	return samples.ByAll(seals.Seal, made(), m, from...)
}

// quorumOf are as many members of a mask as are a quorum, the last ones.
func quorumOf(mask uint16) []int {
	l := samples.Members(mask)
	return l[len(l)-samples.SharesOf(len(l)).Quorum:]
}

// data is what is told by who knows the batch with mark 0 to be decided in that slot, and nothing of the next one: a quorum of these members accepted it in regency 2.
func data(mask uint16, slot int) api.Msg {
	m := api.Msg{Kind: api.MData, View: 7, Reg: next, Slot: slot}
	if slot >= first {
		m.Hash, m.Parts = digest(0), byAll(vote(api.MAccept, 2, slot, 0), quorumOf(mask)...)
	}
	return m
}

// bound is m with the mark's batch for the next slot, which a quorum of these members wrote in that regency.
func bound(mask uint16, m api.Msg, reg, mark int) api.Msg {
	m.Body = batch(mark)
	m.Parts = append(slices.Clone(m.Parts), byAll(vote(api.MWrite, reg, m.Slot+1, mark), quorumOf(mask)...)...)
	return m
}

// with is m with more parts.
func with(m api.Msg, parts ...[]byte) api.Msg {
	m.Parts = slices.Concat(m.Parts, parts)
	return m
}

// bind is what is told by who binds to the mark's batch.
func bind(last, reg, mark int) api.Bind {
	return api.Bind{Last: last, Has: true, Reg: reg, Hash: digest(mark), Batch: batch(mark)}
}

// choice is what follows, if the slot behind the last one is bound to the mark's batch.
func choice(last, mark int) api.Choice {
	return api.Choice{Last: last, Bound: true, Hash: digest(mark), Batch: batch(mark)}
}

// sameBind tells whether both tell the same.
func sameBind(b, c api.Bind) bool {
	return b.Last == c.Last && b.Has == c.Has && b.Reg == c.Reg && b.Hash == c.Hash && bytes.Equal(b.Batch, c.Batch)
}

// sameChoice tells whether both are the same.
func sameChoice(c, d api.Choice) bool {
	return c.Last == d.Last && c.Bound == d.Bound && c.Hash == d.Hash && bytes.Equal(c.Batch, d.Batch)
}

// comesTo checks what m is answered in v, of which the first slot is that one; beside an error that is nothing.
func comesTo(t *testing.T, what string, v api.View, first int, m api.Msg, want api.Bind, err api.Errno) {
	t.Helper()
	if b, e := stops.Valid(table(), v, first, m); e != err || !sameBind(b, want) {
		t.Errorf("%s: %v in %v from %d on: %v, %x, %v; want %v, %x, %v", what, samples.BriefMsg(m), v, first, brief(b), b.Hash[:2], e, brief(want), want.Hash[:2], err)
	}
}

// valid checks that m is valid, and what it tells.
func valid(t *testing.T, what string, mask uint16, m api.Msg, want api.Bind) {
	t.Helper()
	comesTo(t, what, viewOf(mask), first, m, want, api.OK)
}

// invalid checks that m isn't valid, and why.
func invalid(t *testing.T, what string, mask uint16, m api.Msg, want api.Errno) {
	t.Helper()
	comesTo(t, what, viewOf(mask), first, m, api.Bind{}, want)
}

// validBy is what m is answered of members 0 to 3 by a table.
func validBy(k api.Keys, m api.Msg) (api.Bind, api.Errno) {
	return stops.Valid(k, viewOf(15), first, m)
}

// brief tells of b what a line has room for.
func brief(b api.Bind) []any {
	return []any{b.Last, b.Has, b.Reg, len(b.Batch)}
}

// follows checks what follows from parts for the regency to which members go on.
func follows(t *testing.T, what string, mask uint16, parts [][]byte, want api.Choice) {
	t.Helper()
	if c, e := stops.Choose(table(), viewOf(mask), first, next, parts); e != api.OK || !sameChoice(c, want) {
		t.Errorf("%s: of %d parts of %b there follows %d, %v, %x, %d, %v; want %d, %v, %x, %d", what, len(parts), mask, c.Last, c.Bound, c.Hash[:2], len(c.Batch), e, want.Last, want.Bound, want.Hash[:2], len(want.Batch))
	}
}

// refused checks that nothing follows from parts, and why.
func refused(t *testing.T, what string, v api.View, reg int, parts [][]byte, want api.Errno) {
	t.Helper()
	if c, e := stops.Choose(table(), v, first, reg, parts); e != want || !sameChoice(c, api.Choice{}) {
		t.Errorf("%s: of %d parts of %v there follows %d, %v, %v; want %v", what, len(parts), v, c.Last, c.Bound, e, want)
	}
}

// chance is a source of numbers that is always the same.
func chance() *rand.Rand {
	return rand.New(rand.NewPCG(19, 5))
}
