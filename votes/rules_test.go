package votes_test

import (
	"bytes"
	"slices"
	"sync"
	"testing"

	"consistory/api"
	"consistory/samples"
	"consistory/votes"
)

// R3: nil and nothing are one: as a batch, as a text, as a Cert and as bytes.
func TestNilIsNothing(t *testing.T) {
	for _, v := range []api.Vote{entered(1, 2), {Kind: api.VWrite, Reg: 2}, {Kind: api.VAccept}, {Kind: api.VAccept, Cert: [][]byte{nil, nil}}} {
		w := v
		w.Batch, w.Cert = []byte{}, make([][]byte, len(v.Cert))
		for i := range w.Cert {
			w.Cert[i] = []byte{}
		}
		if b, e := votes.Put(w); e != api.OK || !bytes.Equal(b, bytesOf(v)) {
			t.Errorf("%v: % x, %v", brief(v), b, e)
		}
		tells(t, "nothing", bookOf(t, w), model{v})
	}
	refusedGet(t, "nil", nil, api.ErrShort)
	refusedGet(t, "nothing", []byte{}, api.ErrShort)
}

// R4: a vote that is handed in isn't changed, spare room included.
func TestVoteStays(t *testing.T) {
	k := bookOf(t, wrote(1, 2, 2, 1))
	for _, v := range []api.Vote{entered(1, 2), written(20), withLists(20, 3, 0, 150), wrongVotes()[5], wrote(1, 2, 1, 1), written(most), withLists(1, make([]int, texts+1)...)} {
		m, stays := samples.RoomyMsg(msg(v))
		b, e := votes.Put(vote(m))
		c, f := votes.Put(v)
		g, h := k.Take(vote(m)), bookOf(t, wrote(1, 2, 2, 1)).Take(v)
		k.All()
		if e != f || !bytes.Equal(b, c) || g != h {
			t.Errorf("%v is another with room behind: %v, %v, %v, %v", brief(v), e, f, g, h)
		}
		if !stays() {
			t.Errorf("%v is changed", brief(v))
		}
	}
}

// R4: bytes that are handed in aren't changed, spare room included, and what is behind them tells nothing.
func TestBytesStay(t *testing.T) {
	b := bytesOf(withLists(20, 3, 0, 150))
	samples.Leaves(t, votes.Get, same, nil, b[:5], b[:start], b[:start+10], b, append(slices.Clone(b), 0), bytesOf(wrongVotes()[5]), make([]byte, most+1))
}

// R4: what is put, and what is got, is new memory: it shares none with what was handed in, an earlier answer, or among its own lists.
func TestPutAndGotAreNew(t *testing.T) {
	v := withLists(20, 3, 40, 1, 7)
	want := bytesOf(v)
	put, _ := votes.Put(v)
	again, _ := votes.Put(v)
	got, _ := votes.Get(put)
	back, _ := votes.Get(put)
	samples.Spoil(put)
	samples.SpoilMsg(msg(back))
	samples.SpoilMsg(msg(v))
	if !bytes.Equal(again, want) || !bytes.Equal(bytesOf(got), want) {
		t.Error("it changes with what was handed in, or with another answer")
	}
	if !samples.ApartMsg(msg(got)) {
		t.Error("its lists change with each other")
	}
}

// R4: a book keeps nothing of what it takes, spare room included.
func TestBookKeepsNothing(t *testing.T) {
	k, m := votes.New(), model{entered(1, 2), wrote(0, 1, 3, 1), wrote(1, 2, 3, 2), accepted(1, 1, 3, 3), accepted(1, 2, 3, 4)}
	var handed []api.Msg
	for _, v := range m {
		roomy, _ := samples.RoomyMsg(msg(v))
		handed = append(handed, roomy)
		samples.Told(t, "with room behind", api.OK, k.Take(vote(roomy)))
	}
	for _, roomy := range handed {
		samples.SpoilMsg(roomy)
	}
	tells(t, "what was handed in is spoilt", k, m)
	for _, v := range k.All() {
		samples.SpoilMsg(msg(v))
		_, _ = append(v.Batch, 1, 2, 3), append(v.Cert, []byte{4})
	}
	for _, roomy := range handed {
		roomy.Body = append(roomy.Body[:0], "room"...)
	}
	tells(t, "what was answered is spoilt", k, m)
}

// R4: what a book answers is new memory each time, of which no two lists share any, though all were handed in as one.
func TestBookAnswersNew(t *testing.T) {
	one := []byte{1, 2, 3, 4}
	first, second := accepted(1, 2, 3, 1), wrote(1, 2, 3, 1)
	first.Batch, second.Batch, first.Cert = one, one, [][]byte{one, one[:2], one[2:]}
	k := bookOf(t, first, second)
	want := model{first, second}
	wroteThen, _ := k.Wrote(1, 2)
	acceptedThen, _ := k.Accepted()
	all := k.All()
	lists := slices.Concat([][]byte{wroteThen.Batch, acceptedThen.Batch}, acceptedThen.Cert)
	for _, v := range all {
		lists = append(append(lists, v.Batch), v.Cert...)
	}
	if !samples.Apart(lists) {
		t.Error("lists change with each other")
	}
	for _, v := range append(all, wroteThen, acceptedThen) {
		clear(v.Cert[:cap(v.Cert)])
	}
	clear(all[:cap(all)])
	tells(t, "what was answered is spoilt", k, want)
}

// R5: books know nothing of each other, and answer the same again and again.
func TestBooksApart(t *testing.T) {
	var m model
	for i := range 40 {
		m = append(m, wrote(i*7%11, i%5, 3, byte(i)))
	}
	one, other := bookOf(t, m...), votes.New()
	tells(t, "the other book", other, nil)
	want := one.All()
	for range 50 {
		if got := one.All(); !slices.EqualFunc(got, want, same) {
			t.Errorf("%v; want %v", briefs(got), briefs(want))
		}
	}
	samples.Told(t, "the other book", api.OK, other.Take(entered(5, 5)), other.Take(wrote(0, 0, 9, 9)))
	tells(t, "the first book", one, m)
}

// R5: an answer hangs on the arguments alone, not on the calls ahead of it or beside it, an error among them.
func TestSameAgain(t *testing.T) {
	formed, wrong := formedVotes(), wrongVotes()
	var w sync.WaitGroup
	for range 4 {
		w.Go(func() {
			for i, v := range slices.Backward(formed) {
				want := bytesOf(v)
				if b, e := votes.Put(v); e != api.OK || !bytes.Equal(b, want) {
					t.Errorf("%v is put otherwise", brief(v))
				}
				refusedGet(t, "cut", want[:len(want)-1], api.ErrShort)
				refusedPut(t, "not formed", wrong[i%len(wrong)], api.ErrArg)
				if got, e := votes.Get(want); e != api.OK || !same(got, v) {
					t.Errorf("%v is got otherwise", brief(v))
				}
			}
		})
	}
	w.Wait()
}

// R1: every call ends and none panics, at all arguments.
func TestNeverPanics(t *testing.T) {
	r := chance()
	k := votes.New()
	all := samples.Numbers()
	for range 3000 {
		for _, v := range []api.Vote{vote(samples.WildMsg(r)), vote(samples.NearMsg(r))} {
			votes.Put(v)
			k.Take(v)
			b := bytesOf(v)
			votes.Get(b)
			votes.Get(b[:r.IntN(len(b)+1)])
			votes.Get(append(b, samples.Text(r, r.IntN(5))...))
			votes.Get(append(headOf(v), samples.Text(r, r.IntN(60))...))
		}
		votes.Get(samples.Text(r, r.IntN(80)))
		k.Wrote(all[r.IntN(len(all))], all[r.IntN(len(all))])
		k.Accepted()
		k.Reg()
	}
	tells(t, "behind all", bookOf(t, k.All()...), k.All())
}
