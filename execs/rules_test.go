package execs_test

import (
	"bytes"
	"crypto/sha256"
	"slices"
	"sync"
	"testing"

	"consistory/api"
	"consistory/execs"
	"consistory/samples"
)

// R3: nil and nothing are one: as bytes, and as a batch.
func TestNilIsNothing(t *testing.T) {
	for _, b := range [][]byte{nil, {}} {
		refusedGet(t, "no bytes", b, api.ErrShort)
		refusedReply(t, "no bytes", b, api.ErrShort)
	}
	w := execs.First(api.View{Mask: 15})
	comes(t, "nil", w, nil, in(w))
	comes(t, "nothing", w, []api.Req{}, in(w))
}

// R4: a batch that is handed in isn't changed, spare room of it and of its signatures included, and what is behind it isn't done.
func TestBatchStays(t *testing.T) {
	r := chance()
	for range 100 {
		w := execs.First(anyView(r))
		l := anyBatch(r, w)
		whole := append(slices.Clone(l), put(1, 90, 1, 1), change(90, 31), put(2, 90, 2, 2))
		var sigs [][]byte
		for _, one := range whole {
			sigs = append(sigs, one.Sig)
		}
		roomy, stay := samples.RoomyTexts(sigs)
		for i := range whole {
			whole[i].Sig = roomy[i]
		}
		before := slices.Clone(whole)
		behind, replies := execs.Do(w, whole[:len(l)])
		if !stay() || !samples.SameReqs(whole, before) {
			t.Errorf("%v is changed", l)
		}
		comes(t, "without room", w, l, behind, replies...)
	}
}

// R4: bytes that are handed in aren't changed, spare room included, and what is behind them tells nothing.
func TestBytesStay(t *testing.T) {
	b := worldBytes(greatest())
	sameWorld := func(v, w api.World) bool { return v == w }
	samples.Leaves(t, execs.Get, sameWorld, nil, b[:3], b[:9], b[:len(b)-1], b, append(slices.Clone(b), 0), execs.Put(api.World{}))
	b = replyBytes(answer(1, 2, 3, true, -300))
	sameReply := func(v, w api.Reply) bool { return v == w }
	samples.Leaves(t, execs.GetReply, sameReply, nil, b[:3], b[:5], b, append(slices.Clone(b), 0), []byte{1, 2, 3, 2, 5})
}

// R4: what is answered is new memory, spare room included: whoever writes into it changes no world and no other answer.
func TestAnsweredIsNew(t *testing.T) {
	for _, w := range someWorlds() {
		want := worldBytes(w)
		first, second := execs.Put(w), execs.Put(w)
		samples.Spoil(first)
		if !bytes.Equal(second, want) || !bytes.Equal(execs.Put(w), want) {
			t.Errorf("the bytes of %v change with an earlier answer", w)
		}
		reply := w.Last[5]
		one, other := execs.PutReply(reply), execs.PutReply(reply)
		samples.Spoil(one)
		if !bytes.Equal(other, replyBytes(reply)) || !bytes.Equal(execs.PutReply(reply), other) {
			t.Errorf("the bytes of %v change with an earlier answer", reply)
		}
	}
	w := execs.First(api.View{Mask: 15})
	l := []api.Req{put(1, 1, 3, 5), change(1, 31), put(2, 1, 3, 7)}
	behind, replies := execs.Do(w, l)
	_, others := execs.Do(w, l)
	want := slices.Clone(replies)
	clear(others[:cap(others)])
	comes(t, "others are spoilt", w, l, behind, replies...)
	if !slices.Equal(replies, want) {
		t.Errorf("%v change with others", replies)
	}
}

// R5: an answer hangs on the arguments alone, not on the calls ahead of it or beside it, an error among them.
func TestSameAgain(t *testing.T) {
	r := chance()
	type call struct {
		w, behind api.World
		l         []api.Req
		replies   []api.Reply
	}
	var calls []call
	for range 100 {
		w := anyWorld(r)
		l := anyBatch(r, w)
		m := &model{base: w}
		replies := m.do(l)
		calls = append(calls, call{w, m.world(), l, replies})
	}
	var all sync.WaitGroup
	for range 4 {
		all.Go(func() {
			for _, c := range slices.Backward(calls) {
				refusedGet(t, "no views", execs.Put(api.World{}), api.ErrShort)
				refusedReply(t, "neither", []byte{1, 2, 3, 2, 5}, api.ErrForm)
				comes(t, "again", c.w, c.l, c.behind, c.replies...)
				putAndGot(t, c.w, worldBytes(c.w))
				replyPutAndGot(t, c.w.Last[2], replyBytes(c.w.Last[2]))
				if execs.Digest(c.w) != sha256.Sum256(worldBytes(c.w)) || execs.First(c.w.Was).View != c.w.Was {
					t.Errorf("%v has another digest, or its view another first world", c.w)
				}
			}
		})
	}
	all.Wait()
}

// R1: every call ends and none panics, at all arguments.
func TestNeverPanics(t *testing.T) {
	r := chance()
	all := samples.Numbers()
	some := func() int { return all[r.IntN(len(all))] }
	for range 3000 {
		w := api.World{Slot: some(), First: some(), View: api.View{Num: some(), Mask: uint16(some())}, Was: api.View{Num: some(), Mask: uint16(some())}}
		w.Cells = samples.Strayed(samples.AnyCells(r))
		for client := range w.Last {
			w.Last[client] = answer(some(), some(), some(), r.IntN(2) == 0, int64(some()))
		}
		execs.First(w.View)
		execs.Digest(w)
		l := []api.Req{
			{Client: some(), Seq: some(), Op: api.Op{Kind: some(), Key: some(), A: int64(some()), B: int64(some())}, Sig: samples.Text(r, r.IntN(5))},
			{Client: r.IntN(clients), Seq: some(), Op: api.Op{Kind: r.IntN(8), Key: some(), A: int64(some()), B: int64(some())}},
			{Client: some(), Seq: some(), Op: anyOp(r, r.IntN(2))},
			{Client: r.IntN(clients), Seq: some(), Op: anyOp(r, r.IntN(2))},
			change(some(), int64(some())),
		}
		behind, _ := execs.Do(w, l)
		execs.Get(execs.Put(behind))
		execs.GetReply(execs.PutReply(w.Last[r.IntN(clients)]))
		b := samples.Text(r, r.IntN(200))
		execs.Get(b)
		execs.GetReply(b)
		execs.Get(append(execs.Put(w)[:r.IntN(30)], b...))
	}
}
