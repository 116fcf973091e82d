package votes_test

import (
	"bytes"
	"strings"
	"testing"

	"consistory/api"
	"consistory/samples"
	"consistory/votes"
)

// P13.1: bytes written out by hand, and read back.
func TestPutKnown(t *testing.T) {
	nought := strings.Repeat("\x00", 32)
	digest := "\x09" + strings.Repeat("\x00", 30) + "\x07"
	long := strings.Repeat("five ", 60)
	for want, v := range map[string]api.Vote{
		"\x01\x00\x00\x00\x00\x00\x00" + nought + "\x00\x00":                                {Kind: 1},
		"\x01\x00\x3c\x00\x28\x00\x00" + nought + "\x00\x00":                                {Kind: 1, View: 60, Reg: 40},
		"\x02\x00\x01\x00\x02\x00\x3c" + digest + "\x00\x00":                                {Kind: 2, View: 1, Reg: 2, Slot: 60, Hash: api.Hash([]byte(digest))},
		"\x02\x00\x00\x00\x00\x00\x00" + nought + "\x02ab\x00":                              {Kind: 2, Batch: []byte("ab")},
		"\x03\x00\x00\x00\x00\x00\x03" + nought + "\x00\x03\x01c\x00\x02de":                 {Kind: 3, Slot: 3, Cert: [][]byte{[]byte("c"), nil, []byte("de")}},
		"\x03\x00\x00\x00\x00\x00\x00" + digest + "\xac\x02" + long + "\x01\xac\x02" + long: {Kind: 3, Hash: api.Hash([]byte(digest)), Batch: []byte(long), Cert: [][]byte{[]byte(long)}},
	} {
		if got, e := votes.Put(v); e != api.OK || string(got) != want {
			t.Errorf("%v: % x, %v; want % x", brief(v), got, e, want)
		}
		if got, e := votes.Get([]byte(want)); e != api.OK || !same(got, v) {
			t.Errorf("% x: %v, %v; want %v", want, brief(got), e, brief(v))
		}
	}
}

// P13.1: each vote that is formed is put, and got from its bytes, and a book takes it.
func TestPut(t *testing.T) {
	for _, v := range formedVotes() {
		b, e := votes.Put(v)
		if e != api.OK || !bytes.Equal(b, bytesOf(v)) {
			t.Errorf("%v: %d bytes, %v", brief(v), len(b), e)
		}
		if got, e := votes.Get(b); e != api.OK || !same(got, v) {
			t.Errorf("%v is got as %v, %v", brief(v), brief(got), e)
		}
		tells(t, "one vote", bookOf(t, v), model{v})
	}
}

// P13.1: each number, whatever it is: within its bounds alone the vote is formed, and of an entered regency the slot is 0.
func TestPutNumbers(t *testing.T) {
	for i, set := range setters() {
		for x := -3; x < 70; x++ {
			for _, v := range []api.Vote{entered(1, 2), wrote(1, 2, 3, 4), accepted(1, 2, 3, 4)} {
				right := x >= 0 && x <= mostOf(i)
				if v = changed(v, set, x); v.Kind == api.VReg {
					right = right && v.Slot == 0
				}
				if !right {
					refusedPut(t, "a number", v, api.ErrArg)
				} else if got, e := votes.Put(v); e != api.OK || !bytes.Equal(got, bytesOf(v)) {
					t.Errorf("%v: % x, %v", brief(v), got, e)
				}
			}
		}
	}
}

// P13.1: what each kind may have: an entered regency nothing, what was written no Cert; other kinds there are none.
func TestPutKinds(t *testing.T) {
	for kind := -2; kind < 260; kind++ {
		for has := range 1 << 4 {
			v := api.Vote{Kind: kind, View: 5, Reg: 6}
			slot, digest, batch, cert := has&1 > 0, has&2 > 0, has&4 > 0, has&8 > 0
			if slot {
				v.Slot = 7
			}
			if digest {
				v.Hash[20] = 8
			}
			if batch {
				v.Batch = []byte{0}
			}
			if cert {
				v.Cert = [][]byte{nil}
			}
			right := kind == 1 && has == 0 || kind == 2 && !cert || kind == 3
			if !right {
				refusedPut(t, "a kind", v, api.ErrArg)
			} else if got, e := votes.Put(v); e != api.OK || !bytes.Equal(got, bytesOf(v)) {
				t.Errorf("%v: % x, %v", brief(v), got, e)
			}
		}
	}
}

// P13.1, P13.2: one that isn't formed has no bytes, and no book takes it.
func TestPutOfWrong(t *testing.T) {
	for _, v := range append(wrongVotes(), farVotes()...) {
		refusedPut(t, "not formed", v, api.ErrArg)
	}
}

// P13.1, P13.2: a vote of just 65536 bytes is put, whatever they are; one of a byte more is too much, and no book takes it.
func TestPutRoom(t *testing.T) {
	for _, v := range fullest() {
		if len(bytesOf(v)) != most {
			t.Fatalf("%v has %d bytes", brief(v), len(bytesOf(v)))
		}
		if got, e := votes.Put(v); e != api.OK || !bytes.Equal(got, bytesOf(v)) {
			t.Errorf("%v: %d bytes, %v", brief(v), len(got), e)
		}
	}
	for _, v := range fullVotes() {
		refusedPut(t, "too much", v, api.ErrFull)
	}
	huge := withLists(0, make([]int, texts)...)
	for i := range huge.Cert {
		huge.Cert[i] = make([]byte, 1<<22)
	}
	refusedPut(t, "far too much", huge, api.ErrFull)
}

// P13.1: sixteen texts are put, seventeen are too many, however small.
func TestPutTexts(t *testing.T) {
	for n := range 20 {
		v := withLists(3, make([]int, n)...)
		if n > texts {
			refusedPut(t, "too many texts", v, api.ErrFull)
		} else if b, e := votes.Put(v); e != api.OK || len(b) != bare+3+n {
			t.Errorf("%d texts: %d bytes, %v", n, len(b), e)
		}
	}
}

// P13.1: that a vote is too much is told ahead of all that may not be.
func TestPutFullFirst(t *testing.T) {
	for _, v := range fullVotes() {
		for i, set := range setters() {
			for _, x := range []int{-1, mostOf(i) + 1, 1 << 32} {
				refusedPut(t, "too much, and wrong", changed(v, set, x), api.ErrFull)
			}
		}
		for _, kind := range []int{-1, 0, api.VReg, api.VWrite, 4, 1 << 32} {
			v.Kind = kind
			refusedPut(t, "too much, of another kind", v, api.ErrFull)
		}
	}
	for _, v := range fullest() {
		for _, kind := range []int{-1, 0, api.VReg, 4} {
			v.Kind = kind
			refusedPut(t, "just not too much, of another kind", v, api.ErrArg)
		}
	}
}

// P13.1: lengths at which one byte more tells them, and one byte less is left.
func TestPutBorders(t *testing.T) {
	r := chance()
	for _, border := range []int{1 << 7, 1 << 14} {
		for n := border - 2; n < border+2; n++ {
			rest := most - len(bytesOf(withLists(n, n))) - 3
			v := withLists(n, n, rest)
			if b, e := votes.Put(v); e != api.OK || !bytes.Equal(b, bytesOf(v)) || len(b) != most {
				t.Errorf("%v: %d bytes, %v", brief(v), len(b), e)
			}
			v.Cert[1] = samples.Text(r, rest+1)
			refusedPut(t, "a byte more", v, api.ErrFull)
		}
	}
}
