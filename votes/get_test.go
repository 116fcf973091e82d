package votes_test

import (
	"bytes"
	"encoding/binary"
	"slices"
	"testing"

	"consistory/api"
	"consistory/samples"
	"consistory/votes"
)

// P13.1: each kind and each number that its bytes can tell: within its bounds alone the vote is got.
func TestGetNumbers(t *testing.T) {
	for kind := range 256 {
		for _, v := range []api.Vote{entered(1, 2), wrote(1, 2, 3, 4), accepted(1, 2, 3, 4)} {
			if v.Kind == kind {
				continue
			}
			least := v.Kind // what a vote of a lesser kind has, one of a greater kind may have
			v.Kind = kind
			if kind < least || kind > api.VAccept {
				refusedGet(t, "another kind", bytesOf(v), api.ErrArg)
			} else if got, e := votes.Get(bytesOf(v)); e != api.OK || !same(got, v) {
				t.Errorf("%v is got as %v, %v", brief(v), brief(got), e)
			}
		}
	}
	for i, set := range setters() {
		for x := range 1 << 16 {
			v := changed(accepted(1, 2, 3, 4), set, x)
			if x > mostOf(i) {
				refusedGet(t, "a number", bytesOf(v), api.ErrArg)
			} else if got, e := votes.Get(bytesOf(v)); e != api.OK || !same(got, v) {
				t.Errorf("%v is got as %v, %v", brief(v), brief(got), e)
			}
		}
	}
}

// P13.1: one that isn't formed isn't got, where all else is right.
func TestGetOfWrong(t *testing.T) {
	for _, v := range wrongVotes() {
		refusedGet(t, "not formed", bytesOf(v), api.ErrArg)
	}
	refusedGet(t, "nothing but noughts", make([]byte, bare), api.ErrArg)
}

// P13.1: bytes that end anywhere within are too short, also of what isn't formed.
func TestGetShort(t *testing.T) {
	for _, v := range append(wrongVotes()[:8], entered(1, 2), written(300), withLists(20, 3, 0, 150), withLists(0, make([]int, texts)...)) {
		b := bytesOf(v)
		for n := range b {
			refusedGet(t, "cut", b[:n], api.ErrShort)
		}
	}
	for _, v := range fullest() {
		refusedGet(t, "the last byte is cut", bytesOf(v)[:most-1], api.ErrShort)
	}
	refusedGet(t, "nil", nil, api.ErrShort)
}

// P13.1: bytes that are left are refused, ahead of whether the vote is formed.
func TestGetLeft(t *testing.T) {
	for _, v := range append(wrongVotes(), entered(1, 2), written(300), withLists(20, 3, 0, 150), withLists(0, make([]int, texts)...)) {
		for _, n := range []int{1, 2, 300} {
			refusedGet(t, "bytes left", append(bytesOf(v), make([]byte, n)...), api.ErrForm)
		}
	}
	refusedGet(t, "bytes left, 65536 in all", append(bytesOf(entered(1, 2)), make([]byte, most-bare)...), api.ErrForm)
	refusedGet(t, "noughts, 65536 in all", make([]byte, most), api.ErrForm)
}

// P13.1: more than 65536 bytes are too many, whatever they tell.
func TestGetFull(t *testing.T) {
	for _, n := range []int{most + 1, most + 2, 2 * most, 1 << 20} {
		refusedGet(t, "noughts", make([]byte, n), api.ErrFull)
		refusedGet(t, "a vote, and bytes left", append(bytesOf(entered(1, 2)), make([]byte, n-bare)...), api.ErrFull)
		refusedGet(t, "a batch alone", bytesOf(written(n-bare-2)), api.ErrFull)
		refusedGet(t, "a text alone", bytesOf(withLists(0, n-bare-3)), api.ErrFull)
		refusedGet(t, "a number that isn't told so", bytes.Repeat([]byte{0x80}, n), api.ErrFull)
	}
	for _, v := range fullVotes() {
		if b := bytesOf(v); len(b) > most {
			refusedGet(t, "too much", b, api.ErrFull)
		} else {
			refusedGet(t, "too many texts", b, api.ErrRange)
		}
	}
}

// P13.1: layer 1's errors are told as they are met, in Batch, in how many texts there are, and in each: what is wrong behind the first changes nothing, and whether the vote is formed is asked last.
func TestGetLists(t *testing.T) {
	far := string(binary.AppendUvarint(nil, most+1))
	great := string(binary.AppendUvarint(nil, 1<<64-1))
	for _, c := range []struct {
		tail string
		want api.Errno
	}{
		{"", api.ErrShort}, {"\x80", api.ErrShort}, {"\x01", api.ErrShort}, {"\x03ab", api.ErrShort}, {"\x80\x80\x04", api.ErrShort},
		{"\x80\x00", api.ErrForm}, {"\x81\x00a\x00", api.ErrForm}, {"\x81\x80\x00a\x00", api.ErrForm}, {"\xff\xff\xff\xff\xff\xff\xff\xff\xff\x02", api.ErrForm},
		{far, api.ErrRange}, {far + "\x11", api.ErrRange}, {great, api.ErrRange},
		{"\x00", api.ErrShort}, {"\x01a", api.ErrShort}, {"\x00\x80", api.ErrShort}, {"\x00\x01", api.ErrShort}, {"\x00\x10", api.ErrShort},
		{"\x00\x80\x00", api.ErrForm}, {"\x01a\x81\x00\x01b", api.ErrForm}, {"\x00\x91\x00", api.ErrForm},
		{"\x00\x11", api.ErrRange}, {"\x01a\x7f", api.ErrRange}, {"\x00\x80\x01", api.ErrRange}, {"\x00\x81\x02\x00", api.ErrRange}, {"\x00" + great, api.ErrRange}, {"\x00\x11\x80\x00", api.ErrRange},
		{"\x00\x01\x01", api.ErrShort}, {"\x00\x02\x01a", api.ErrShort}, {"\x00\x02\x01a\x02b", api.ErrShort}, {"\x00\x02\x02a", api.ErrShort},
		{"\x00\x01\x80\x00", api.ErrForm}, {"\x00\x01\x81\x00a", api.ErrForm}, {"\x00\x02\x00\x81\x00a", api.ErrForm}, {"\x00\x02\x80\x00" + far, api.ErrForm},
		{"\x00\x01" + far, api.ErrRange}, {"\x00\x02\x01a" + far, api.ErrRange}, {"\x00\x02" + far + "\x80\x00", api.ErrRange}, {"\x00\x01" + great, api.ErrRange},
		{"\x00\x00\x00", api.ErrForm}, {"\x01a\x00\x00", api.ErrForm}, {"\x00\x01\x01ab", api.ErrForm}, {"\x00\x02\x00\x01a\x80", api.ErrForm},
	} {
		for _, v := range append(wrongVotes()[:20], entered(1, 2), wrote(1, 2, 3, 4), accepted(1, 2, 3, 4)) {
			refusedGet(t, "lists", append(headOf(v), c.tail...), c.want)
		}
	}
}

// P13.1: there are at most sixteen texts: a number that is above is met ahead of texts that aren't there.
func TestGetTexts(t *testing.T) {
	head := append(headOf(accepted(1, 2, 3, 4)), 0)
	for n := range 40 {
		all := make([][]byte, n+1)
		for there := range n + 2 {
			b := slices.Concat(head, samples.CountAnd(uint64(n), all[:there]...))
			switch {
			case n > texts:
				refusedGet(t, "too many texts", b, api.ErrRange)
			case there < n:
				refusedGet(t, "texts miss", b, api.ErrShort)
			case there > n:
				refusedGet(t, "a text too many", b, api.ErrForm)
			default:
				if v, e := votes.Get(b); e != api.OK || len(v.Cert) != n {
					t.Errorf("%d texts: %v, %v", n, brief(v), e)
				}
			}
		}
	}
}

// P13.1: what is got from any bytes has just these bytes, so that a changed bit makes another vote, or none, by each of the errors.
func TestGetOfAnyBytes(t *testing.T) {
	r := chance()
	count := map[api.Errno]int{}
	for _, v := range formedVotes() {
		b := bytesOf(v)
		for range 60 {
			at, bit := r.IntN(min(len(b), start+r.IntN(20))), byte(1<<r.IntN(8))
			b[at] ^= bit
			got, e := votes.Get(b)
			if count[e]++; e != api.OK {
				refusedGet(t, "a changed bit", b, e)
			} else if again, e := votes.Put(got); e != api.OK || !bytes.Equal(again, b) || same(got, v) {
				t.Errorf("%v: %d bytes, %v", brief(got), len(again), e)
			}
			b[at] ^= bit
		}
	}
	for _, e := range []api.Errno{api.OK, api.ErrShort, api.ErrForm, api.ErrRange, api.ErrArg} {
		if count[e] == 0 {
			t.Error("no changed bit is answered by", e)
		}
	}
}
