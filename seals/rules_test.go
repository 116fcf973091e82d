package seals_test

import (
	"bytes"
	"slices"
	"sync"
	"testing"

	"consistory/api"
	"consistory/samples"
	"consistory/seals"
	"consistory/wire"
)

// R3: nil and nothing are one: as seals, as a seal, as a body, as parts.
func TestNilIsNothing(t *testing.T) {
	m, n := vote(1), vote(1)
	m.Parts, n.Parts = [][]byte{nil}, [][]byte{{}}
	n.Body = []byte{}
	with, without := api.Keys{Seals: [][]byte{{3}, {}}, Roots: []api.Hash{}}, api.Keys{Seals: [][]byte{{3}, nil}}
	want := sealedOf(with, m)
	sealed(t, "nil", with, n, want)
	sealed(t, "nil", without, n, want)
	opened(t, "nil", without, want, m)
	opened(t, "nil", with, want, n)
	for _, k := range []api.Keys{{}, {Seals: [][]byte{}}} {
		refusedSeal(t, "no seals", k, m, api.ErrWho)
		refusedOpen(t, "no seals", k, want, api.ErrWho)
	}
}

// R4: a message that is handed in isn't changed, spare room included, nor are the seals.
func TestSealLeavesAll(t *testing.T) {
	plain := table(7)
	k, before := table(7), table(7)
	var wholes, copies [][]byte
	for i, seal := range k.Seals {
		whole, view := samples.Roomy(seal)
		k.Seals[i] = view
		wholes, copies = append(wholes, whole), append(copies, slices.Clone(whole))
	}
	wrong := withBody(20, 3)
	wrong.Kind = 13
	for _, m := range []api.Msg{vote(5), withBody(20, 3, 0, 150), withBody(room, 5), wrong, vote(6), vote(7)} {
		n, stays := samples.RoomyMsg(m)
		b, e := seals.Seal(k, n)
		c, f := seals.Seal(plain, m)
		if e != f || !bytes.Equal(b, c) {
			t.Errorf("%v is another with room behind: %v, %v", samples.BriefMsg(m), e, f)
		}
		if !stays() {
			t.Errorf("%v is changed", samples.BriefMsg(m))
		}
		got, e := seals.Open(k, b)
		back, f := seals.OpenOf(plain, api.View{Mask: 0x7f}, b)
		if e != f || !samples.SameMsg(got, back) {
			t.Errorf("%v opens otherwise with room behind the seals: %v, %v", samples.BriefMsg(m), e, f)
		}
	}
	if !slices.EqualFunc(wholes, copies, bytes.Equal) || !slices.EqualFunc(k.Seals, before.Seals, bytes.Equal) || !slices.Equal(k.Roots, before.Roots) {
		t.Error("the key table is changed")
	}
}

// R4: bytes that are handed in aren't changed, spare room included, and what is behind them tells nothing.
func TestBytesStay(t *testing.T) {
	k := table(nodes)
	b := sealedOf(k, withBody(20, 3, 0, 150))
	wrong := append(slices.Clone(b[:len(b)-1]), b[len(b)-1]^1)
	for _, b := range [][]byte{nil, b[:5], b[:tagSize], b[:60], b, wrong, append(slices.Clone(b), 0), make([]byte, api.MaxText+1)} {
		whole, view := samples.Roomy(b)
		before := slices.Clone(whole)
		for _, v := range []api.View{{Mask: 0xff}, {Mask: 0x0f}} {
			m, e := seals.OpenOf(k, v, view)
			n, f := seals.OpenOf(k, v, b)
			if e != f || !samples.SameMsg(m, n) {
				t.Errorf("%d bytes are another message with room behind: %v, %v", len(b), e, f)
			}
		}
		m, e := seals.Open(k, view)
		n, f := seals.Open(k, b)
		if e != f || !samples.SameMsg(m, n) || !bytes.Equal(whole, before) {
			t.Errorf("%d bytes are changed, or another message with room behind: %v, %v", len(b), e, f)
		}
	}
}

// R4: what is opened is new memory: it shares none with the bytes, with an earlier answer, or among its own lists.
func TestOpenedIsNew(t *testing.T) {
	k := table(nodes)
	m := withBody(20, 3, 40, 1, 7)
	b := sealedOf(k, m)
	got, _ := seals.Open(k, b)
	again, _ := seals.OpenOf(k, api.View{Mask: 0xff}, b)
	other, _ := seals.OpenOf(k, api.View{Mask: 0xff}, b)
	samples.Spoil(b)
	samples.SpoilMsg(again)
	for _, got := range []api.Msg{got, other} {
		if !samples.SameMsg(got, m) {
			t.Error("it changes with the bytes, or with another answer")
		}
		if !samples.ApartMsg(got) {
			t.Error("its lists change with each other")
		}
	}
}

// R4: what is sealed is new memory.
func TestSealedIsNew(t *testing.T) {
	k := table(nodes)
	for _, n := range []int{0, 1, 20, 54, 1000} {
		m := withBody(n, 3, 40)
		want := sealedOf(k, m)
		first, _ := seals.Seal(k, m)
		second, _ := seals.Seal(k, m)
		samples.Spoil(first)
		sealed(t, "again", k, m, want)
		samples.SpoilMsg(m)
		samples.Spoil(k.Seals[m.From])
		if !bytes.Equal(second, want) {
			t.Error("it changes with an earlier one, the message or the seal")
		}
		samples.Spoil(k.Seals[m.From])
	}
}

// R5: an answer hangs on the arguments alone, not on the calls ahead of it or beside it, an error among them.
func TestSameAgain(t *testing.T) {
	k, few := table(nodes), table(3)
	var w sync.WaitGroup
	for range 4 {
		w.Go(func() {
			for _, m := range formedMsgs()[:300] {
				want := sealedOf(k, m)
				sealed(t, "again", k, m, want)
				if m.From >= 3 {
					refusedSeal(t, "few seals", few, m, api.ErrWho)
				}
				wrong := append(slices.Clone(want[:len(want)-1]), want[len(want)-1]^1)
				refusedOpen(t, "another tag", k, wrong, api.ErrTag)
				opened(t, "again", k, want, m)
			}
		})
	}
	w.Wait()
}

// R1: every call ends and none panics, at all arguments.
func TestNeverPanics(t *testing.T) {
	r := chance()
	numbers := samples.Numbers()
	for range 3000 {
		k := api.Keys{Seals: make([][]byte, r.IntN(20)), Roots: make([]api.Hash, r.IntN(9))}
		for i := range k.Seals {
			k.Seals[i] = samples.Text(r, r.IntN(100))
		}
		v := api.View{Num: numbers[r.IntN(len(numbers))], Mask: uint16(r.Uint64())}
		seals.Seal(k, samples.WildMsg(r))
		m := samples.NearMsg(r)
		seals.Seal(k, m)
		b, _ := wire.Put(m)
		b = append(b, samples.Text(r, r.IntN(70))...)
		for _, b := range [][]byte{b, b[:r.IntN(len(b)+1)], samples.Text(r, r.IntN(120))} {
			seals.Open(k, b)
			seals.OpenOf(k, v, b)
		}
	}
}
