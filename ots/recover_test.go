package ots_test

import (
	"bytes"
	"fmt"
	"testing"

	"consistory/api"
	"consistory/ots"
	"consistory/samples"
	"consistory/sha"
)

// P4.3: Recover of Sign is Public.
func TestRecoverOfSign(t *testing.T) {
	r := chance()
	texts := textsOf(r)
	for i, seed := range samples.Hashes(r) {
		for j, index := range samples.Numbers() {
			text := texts[(i+j)%len(texts)]
			got, e := ots.Recover(text, ots.Sign(seed, index, text))
			if want := ots.Public(seed, index); e != api.OK || got != want {
				t.Errorf("of %d bytes by %x, %d: %x, %v; want %x", len(text), seed, index, got, e, want)
			}
		}
	}
}

// P4.2: what comes of texts and bytes that are known.
func TestRecoverKnown(t *testing.T) {
	var counted []byte
	for i := range whole {
		counted = append(counted, byte(i))
	}
	clear(counted[512:])
	for _, c := range []struct {
		text string
		sig  []byte
		want string
	}{
		{"text", make([]byte, whole), "e209155914fe2b677d16f5dbf2d530dc1957885876b00831b5339be71ebd7cf1"},
		{"", counted, "e8c15691cf86d58361b9710dca884244ed3cd07f4f7d6b502382ce50efa65a5d"},
	} {
		if got, e := ots.Recover([]byte(c.text), c.sig); e != api.OK || fmt.Sprintf("%x", got) != c.want {
			t.Errorf("of %q: %x, %v; want %s", c.text, got, e, c.want)
		}
	}
}

// P4.2: of any 560 bytes some key comes, nobody's maybe, and no error.
func TestRecoverOfAny(t *testing.T) {
	r := chance()
	for range 20 {
		for _, text := range textsOf(r) {
			sig := samples.Text(r, whole)
			if got, e := ots.Recover(text, sig); e != api.OK || got != recoveredOf(text, sig) {
				t.Errorf("of %d bytes and %x: %x, %v; want %x", len(text), sig, got, e, recoveredOf(text, sig))
			}
		}
	}
}

// P4.2, R2: what hasn't 560 bytes is no signature, and no key comes of it.
func TestRecoverLengths(t *testing.T) {
	text := []byte("text")
	sig := ots.Sign(api.Hash{}, 1, text)
	long := bytes.Repeat(sig, 3)
	for n := range len(long) {
		want := api.ErrForm
		if n == whole {
			want = api.OK
		}
		h, e := ots.Recover(text, long[:n])
		if e != want || (e != api.OK && h != api.Hash{}) {
			t.Errorf("%d bytes: %x, %v; want %v", n, h, e, want)
		}
	}
	for _, none := range [][]byte{nil, {}, sig[1:], sig[size:], append([]byte{0}, sig...), make([]byte, api.MaxText)} {
		if h, e := ots.Recover(text, none); e != api.ErrForm || h != (api.Hash{}) {
			t.Errorf("%d bytes: %x, %v", len(none), h, e)
		}
		if h, e := ots.Recover(nil, none); e != api.ErrForm || h != (api.Hash{}) {
			t.Errorf("%d bytes, no text: %x, %v", len(none), h, e)
		}
	}
}

// P4.2: of a signature with another byte, or other pieces, another key comes.
func TestRecoverOfOtherSign(t *testing.T) {
	r := chance()
	seed, text := samples.Hash(r), samples.Text(r, 40)
	public, sig := ots.Public(seed, 2), ots.Sign(seed, 2, text)
	check := func(name string, other []byte) {
		t.Helper()
		if h, e := ots.Recover(text, other); e != api.OK || h == public || h == (api.Hash{}) {
			t.Errorf("%s: %x, %v", name, h, e)
		}
	}
	for i := range sig {
		other := bytes.Clone(sig)
		other[i] ^= 1 << r.IntN(8)
		check(fmt.Sprint("with another byte ", i), other)
	}
	for j := range chains - 1 {
		other := bytes.Clone(sig)
		copy(other[size*j:], sig[size*(j+1):][:size])
		copy(other[size*(j+1):], sig[size*j:][:size])
		check(fmt.Sprint("turned about at ", j), other)
	}
	check("by another index", ots.Sign(seed, 3, text))
	check("by another seed", ots.Sign(samples.Hash(r), 2, text))
	check("of noughts", make([]byte, whole))
}

// P4.2: for another text another key comes of a signature.
func TestRecoverForOtherText(t *testing.T) {
	r := chance()
	seed := samples.Hash(r)
	for _, text := range textsOf(r) {
		public, sig := ots.Public(seed, 7), ots.Sign(seed, 7, text)
		others := [][]byte{append(bytes.Clone(text), 0), samples.Text(r, len(text)+1)}
		if len(text) > 0 {
			turned := bytes.Clone(text)
			turned[len(text)/2] ^= 0x10
			others = append(others, nil, text[1:], text[:len(text)-1], turned)
		}
		for i, other := range others {
			if h, e := ots.Recover(other, sig); e != api.OK || h == public {
				t.Errorf("of %d bytes, the other text %d: %x, %v", len(text), i, h, e)
			}
		}
	}
}

// P4.3: who goes on along the chains from one signature comes to no other text's, for one chain at least would have to be gone back.
func TestRecoverOfGoneOn(t *testing.T) {
	r := chance()
	seed := samples.Hash(r)
	public := ots.Public(seed, 0)
	for range 50 {
		a, b := samples.Text(r, 9), samples.Text(r, 9)
		sig := ots.Sign(seed, 0, a)
		stuck := 0
		from, to := digitsOf(sha.Sum(a)), digitsOf(sha.Sum(b))
		for j := range chains {
			if from[j] > to[j] {
				stuck++
			}
			p := sig[size*j:][:size]
			for s := from[j]; s < to[j]; s++ {
				copy(p, steppedOf(p, j, s))
			}
		}
		if h, e := ots.Recover(b, sig); stuck == 0 || e != api.OK || h == public {
			t.Errorf("from %x to %x: %d chains would be gone back, %v, the signer's: %v", a, b, stuck, e, h == public)
		}
	}
}
