package ots_test

import (
	"bytes"
	"slices"
	"sync"
	"testing"

	"consistory/api"
	"consistory/ots"
	"consistory/samples"
)

// R4: what is handed in isn't changed, spare room included.
func TestHandedInStays(t *testing.T) {
	r := chance()
	seed := samples.Hash(r)
	before := seed
	for _, text := range textsOf(r) {
		wholeText, view := samples.Roomy(text)
		wholeSig, sig := samples.Roomy(signedBy(seed, 1, text))
		beforeText, beforeSig := slices.Clone(wholeText), slices.Clone(wholeSig)
		ots.Sign(seed, 1, view)
		ots.Recover(view, sig)
		ots.Recover(view, sig[:whole-1])
		ots.Recover(sig, sig)
		if !bytes.Equal(wholeText, beforeText) || !bytes.Equal(wholeSig, beforeSig) {
			t.Errorf("a text of %d bytes, or its signature, is changed", len(text))
		}
	}
	ots.Digits(seed)
	ots.Public(seed, 1)
	if seed != before {
		t.Error("a digest is changed")
	}
}

// R4: a signature is new memory: whoever writes into one changes no other, and nothing that was handed in.
func TestSignaturesAreNew(t *testing.T) {
	seed := samples.Hash(chance())
	text := []byte("text")
	want := signedBy(seed, 4, text)
	first, second := ots.Sign(seed, 4, text), ots.Sign(seed, 4, text)
	samples.Spoil(first)
	if !bytes.Equal(second, want) || !bytes.Equal(ots.Sign(seed, 4, text), want) || string(text) != "text" {
		t.Error("it changes with an earlier one")
	}
	samples.Spoil(text)
	if !bytes.Equal(second, want) {
		t.Error("it changes with its text")
	}
}

// R3: nil and nothing are one.
func TestNilIsNothing(t *testing.T) {
	seed := samples.Hash(chance())
	sig := ots.Sign(seed, 1, nil)
	if !bytes.Equal(sig, ots.Sign(seed, 1, []byte{})) {
		t.Error("Sign")
	}
	h, e := ots.Recover(nil, sig)
	if other, f := ots.Recover([]byte{}, sig); h != other || e != api.OK || f != api.OK || h != ots.Public(seed, 1) {
		t.Error("Recover of no text")
	}
	_, e = ots.Recover(nil, nil)
	if _, f := ots.Recover([]byte{}, []byte{}); e != api.ErrForm || f != api.ErrForm {
		t.Error("Recover of no signature")
	}
}

// R5: an answer hangs on the arguments alone, not on the calls ahead of it or beside it.
func TestSameAgain(t *testing.T) {
	r := chance()
	seed, texts := samples.Hash(r), textsOf(r)
	public := publicOf(seed, 5)
	var want [][]byte
	for _, text := range texts {
		want = append(want, signedBy(seed, 5, text))
	}
	var w sync.WaitGroup
	for range 4 {
		w.Go(func() {
			for i, text := range texts {
				if !bytes.Equal(ots.Sign(seed, 5, text), want[i]) {
					t.Errorf("text %d has another signature", i)
				}
				if h, e := ots.Recover(text, want[i]); h != public || e != api.OK {
					t.Errorf("of text %d another key comes", i)
				}
				if ots.Public(seed, 5) != public || ots.Digits(public) != digitsOf(public) {
					t.Error("the key, or its digits, are others")
				}
			}
		})
	}
	w.Wait()
	for i, text := range slices.Backward(texts) {
		// What is told from within something greater is the same.
		_, view := samples.Roomy(text)
		_, sig := samples.Roomy(want[i])
		if h, e := ots.Recover(view, sig); h != public || e != api.OK || !bytes.Equal(ots.Sign(seed, 5, view), want[i]) {
			t.Errorf("text %d hangs on what is behind it", i)
		}
	}
}

// R1: every call ends and none panics, at all arguments.
func TestNeverPanics(t *testing.T) {
	r := chance()
	for range 300 {
		seed, index := samples.Hash(r), int(r.Uint64())
		sig := ots.Sign(seed, index, samples.Text(r, r.IntN(100)))
		ots.Recover(sig[r.IntN(len(sig)+1):], samples.Text(r, whole-1+r.IntN(3)))
		ots.Digits(ots.Public(seed, index))
	}
}
