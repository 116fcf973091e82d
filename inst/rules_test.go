package inst_test

import (
	"bytes"
	"slices"
	"sync"
	"testing"

	"consistory/api"
	"consistory/inst"
	"consistory/samples"
	"consistory/seals"
)

// P18.4: of a nil instance that it is nil is told of any part, ahead of all else, and otherwise nothing.
func TestNilInst(t *testing.T) {
	var x *inst.Inst
	samples.Takes(t, "a nil instance", x, api.ErrNil, by(3, wrote(2, 1)), by(9, accepted(2, 1)), nil, []byte{1})
	for _, r := range append(unopened(), untaken()...) {
		samples.Takes(t, "a nil instance", x, api.ErrNil, r.Part)
	}
	for _, batch := range [][]byte{nil, {}, []byte("abc")} {
		if h := x.Learn(batch); h != (api.Hash{}) {
			t.Errorf("of the batch %q of a nil instance the digest is %x", batch, h)
		}
	}
	for _, h := range append(samples.Hashes(chance()), instOf(15).Learn([]byte("abc")), instOf(15).Learn(nil)) {
		lacks(t, "a nil instance", x, h)
	}
	unvoted(t, "a nil instance", x)
}

// Ways: as many members as there may be in a right view are each found among those who voted, wherever their bits are.
func TestAllBits(t *testing.T) {
	for _, mask := range []uint16{127, 0xfe00, 0x5554, 0x2aaa, 0xc1e0} {
		members := samples.Members(mask)
		x := instOf(mask)
		writes, accepts := byAll(wrote(40, 1), members...), byAll(accepted(40, 1), members...)
		samples.Takes(t, "all", x, api.OK, append(writes, accepts...)...)
		writtenIn(x, 40).is(t, "all", won(40, 1, writes...))
		acceptedBy(x).is(t, "all", won(40, 1, accepts...))
	}
}

// R3: nil and nothing are one: as a part, as a batch, as a seal and as seals.
func TestNilIsNothing(t *testing.T) {
	for _, k := range []api.Keys{{}, {Seals: [][]byte{}, Roots: []api.Hash{}}} {
		x := inst.New(k, viewOf(15), slot)
		samples.Takes(t, "no seals", x, api.ErrWho, byAll(wrote(2, 1), 0, 1, 2, 3)...)
		samples.Takes(t, "nothing", x, api.ErrShort, nil, []byte{})
		unvoted(t, "no seals", x)
	}
	for _, seal := range [][]byte{nil, {}} {
		k := api.Keys{Seals: [][]byte{seal, seal, seal}}
		x := inst.New(k, viewOf(15), slot)
		parts := samples.ByAll(seals.Seal, api.Keys{Seals: make([][]byte, 3)}, wrote(2, 1), 0, 1, 2)
		samples.Takes(t, "empty seals", x, api.OK, parts...)
		writtenIn(x, 2).is(t, "empty seals", won(2, 1, parts...))
	}
}

// full is an instance in which a quorum wrote in regency 2, and accepted in 3, with a batch; and its votes.
func full(t *testing.T) (x *inst.Inst, writes, accepts [][]byte) {
	t.Helper()
	x = instOf(15)
	writes, accepts = byAll(samples.WithBody(wrote(2, 1), 5), 0, 1, 3), byAll(accepted(3, 1), 0, 1, 2, 3)
	samples.Takes(t, "writes", x, api.OK, writes...)
	samples.Takes(t, "accepts", x, api.OK, accepts...)
	learns(t, "a batch", x, []byte("abc"))
	return x, writes, accepts
}

// isFull checks that an instance is as full made it.
func isFull(t *testing.T, what string, x *inst.Inst, writes, accepts [][]byte) {
	t.Helper()
	writtenIn(x, 2).is(t, what, won(2, 1, writes...))
	acceptedBy(x).is(t, what, won(3, 1, accepts...))
	has(t, what, x, []byte("abc"))
}

// R4: what is handed in isn't changed, spare room included, and what is behind it tells nothing.
func TestHandedInStays(t *testing.T) {
	k := table()
	roomySeals, sealsStay := samples.RoomyTexts(k.Seals)
	k.Seals = roomySeals
	roots := slices.Clone(k.Roots)
	x := inst.New(k, viewOf(15), slot)
	var plain [][]byte
	for _, r := range append(unopened(), untaken()...) {
		plain = append(plain, r.Part)
	}
	plain = append(plain, byAll(wrote(2, 1), 0, 1, 1, 3)...)
	parts, partsStay := samples.RoomyTexts(plain)
	y := instOf(15)
	for i, part := range parts {
		if e, f := x.Take(part), y.Take(plain[i]); e != f {
			t.Errorf("part %d comes to %v with room behind; want %v", i, e, f)
		}
	}
	batch, batchStays := samples.RoomyTexts([][]byte{[]byte("abc"), {}})
	learns(t, "with room behind", x, batch...)
	n := len(plain)
	writtenIn(x, 2).is(t, "with room behind", won(2, 1, plain[n-4], plain[n-3], plain[n-1]))
	has(t, "with room behind", x, []byte("abc"))
	if !sealsStay() || !partsStay() || !batchStays() || !slices.Equal(k.Roots, roots) {
		t.Error("what was handed in is changed")
	}
}

// R4: nothing that is handed in is kept as it is: not the table, nor its list of seals, nor votes, nor batches.
func TestNothingIsKept(t *testing.T) {
	k := table()
	for i, seal := range k.Seals {
		_, k.Seals[i] = samples.Roomy(seal)
	}
	x, y := inst.New(k, viewOf(15), slot), inst.New(k, viewOf(15), slot)
	for _, seal := range k.Seals {
		samples.Spoil(seal)
	}
	writes := byAll(wrote(2, 1), 0, 1, 3)
	samples.Takes(t, "its seals are spoilt", x, api.OK, writes...)
	clear(k.Seals)
	clear(k.Roots)
	samples.Takes(t, "its list is cleared", y, api.OK, writes...)

	x, writes, accepts := full(t)
	var want [2][][]byte
	for _, part := range writes {
		want[0] = append(want[0], bytes.Clone(part))
	}
	for _, part := range accepts {
		want[1] = append(want[1], bytes.Clone(part))
	}
	batch := []byte("another one")
	h := x.Learn(batch)
	for _, b := range slices.Concat(writes, accepts, [][]byte{batch}) {
		samples.Spoil(b)
	}
	isFull(t, "what was handed in is spoilt", x, want[0], want[1])
	if b, _ := x.Batch(h); string(b) != "another one" {
		t.Errorf("the batch is %q", b)
	}
}

// R4: what is answered is new memory, spare room included: it shares none with the instance, an earlier answer, or among its own lists.
func TestAnswersAreNew(t *testing.T) {
	x, writes, accepts := full(t)
	var lists [][]byte
	for range 2 {
		w, a := writtenIn(x, 2).votes, acceptedBy(x).votes
		b, _ := x.Batch(x.Learn([]byte("abc")))
		lists = append(append(append(lists, w...), a...), b)
		_, _, _ = append(w, []byte{1}), append(a, []byte{1}), append(b, 1)
		if !samples.Apart(lists) {
			t.Error("answers share memory")
		}
		clear(w[:cap(w)])
		clear(a[:cap(a)])
		isFull(t, "answers are spoilt", x, writes, accepts)
	}
	first, second := writtenIn(x, 2), writtenIn(x, 2)
	clear(first.votes)
	second.is(t, "another answer is cleared", won(2, 1, writes...))
	third, fourth := acceptedBy(x), acceptedBy(x)
	clear(third.votes)
	fourth.is(t, "another answer is cleared", won(3, 1, accepts...))
}

// R4: votes that were one memory when they came are told apart.
func TestVotesOfOneMemory(t *testing.T) {
	k := api.Keys{Seals: make([][]byte, nodes)}
	whole := bytes.Join(samples.ByAll(seals.Seal, k, wrote(2, 1), 0, 1, 2), nil)
	x := inst.New(k, viewOf(15), slot)
	n := len(whole) / 3
	samples.Takes(t, "one memory", x, api.OK, whole[:n], whole[n:2*n], whole[2*n:])
	want := bytes.Clone(whole)
	l := writtenIn(x, 2).votes
	if len(l) != 3 || !samples.Apart(append(l, whole)) {
		t.Errorf("%d votes are told, or they share memory", len(l))
	}
	writtenIn(x, 2).is(t, "one memory", won(2, 1, want[:n], want[n:2*n], want[2*n:]))
}

// R4: an answer stays as it was, whatever becomes of the instance.
func TestAnswersStay(t *testing.T) {
	x, writes, accepts := full(t)
	w, a := writtenIn(x, 2), acceptedBy(x)
	samples.Takes(t, "more", x, api.OK, by(2, wrote(2, 1)))
	samples.Takes(t, "more", x, api.OK, byAll(accepted(1, 9), 3, 2, 1, 0)...)
	learns(t, "more", x, batches(room)...)
	w.is(t, "as it was", won(2, 1, writes...))
	a.is(t, "as it was", won(3, 1, accepts...))
	writtenIn(x, 2).is(t, "now", won(2, 1, writes[0], writes[1], by(2, wrote(2, 1)), writes[2]))
	acceptedBy(x).is(t, "now", won(1, 9, byAll(accepted(1, 9), 0, 1, 2, 3)...))
}

// R5: instances know nothing of each other, and answer the same again and again, in whatever order maps are gone through.
func TestInstancesApart(t *testing.T) {
	x, other := instOf(127), instOf(127)
	members := samples.Members(127)
	for reg := regs - 1; reg > 0; reg-- {
		samples.Takes(t, "the first one", x, api.OK, append(byAll(accepted(reg, byte(reg)), members...), byAll(wrote(reg, byte(reg)), members...)...)...)
	}
	learns(t, "the first one", x, batches(room)...)
	unvoted(t, "the other one", other)
	lacks(t, "the other one", other, x.Learn(batches(1)[0]))
	samples.Takes(t, "the other one", other, api.OK, by(0, accepted(1, 2)), by(1, accepted(1, 2)))
	for range 200 {
		acceptedBy(x).is(t, "the first one", won(1, 1, byAll(accepted(1, 1), members...)...))
		writtenIn(x, 7).is(t, "the first one", won(7, 7, byAll(wrote(7, 7), members...)...))
		unwritten(t, "the first one", x, 0)
	}
	unvoted(t, "the other one", other)
}

// R5: an answer hangs on what its own instance has been through, not on calls to others beside it.
func TestSameAgain(t *testing.T) {
	var all sync.WaitGroup
	for range 4 {
		all.Go(func() {
			r := chance()
			told, found := map[api.Errno]int{}, map[int]int{}
			for _, mask := range samples.RightMasks() {
				session(t, r, mask, 60, told, found)
			}
			x, writes, accepts := full(t)
			for range 20 {
				isFull(t, "again", x, writes, accepts)
			}
		})
	}
	all.Wait()
}

// R1: every call ends and none panics, at all arguments.
func TestNeverPanics(t *testing.T) {
	r := chance()
	numbers := samples.Numbers()
	some := func() int { return numbers[r.IntN(len(numbers))] }
	var none *inst.Inst
	for range 1000 {
		k := samples.Table(r, r.IntN(20))
		m := samples.NearMsg(r)
		sealed, _ := seals.Seal(k, m)
		m.Kind = api.MWrite + r.IntN(2)
		vote, _ := seals.Seal(k, m)
		mask := uint16(r.Uint64())
		for _, v := range []api.View{{Num: some(), Mask: mask}, {Num: m.View, Mask: mask}, {Num: m.View, Mask: 15}, {}} {
			for _, x := range []*inst.Inst{inst.New(k, v, m.Slot), inst.New(k, v, some()), inst.New(api.Keys{}, v, some()), none} {
				for _, part := range append(samples.Texts(r, r.IntN(100), r.IntN(3), 74), sealed, vote, vote) {
					x.Take(part)
				}
				x.Written(some())
				x.Written(m.Reg)
				x.Accepted()
				x.Batch(m.Hash)
				x.Batch(x.Learn(m.Body))
			}
		}
	}
}
