package keys_test

import (
	"bytes"
	"reflect"
	"slices"
	"sync"
	"testing"

	"consistory/api"
	"consistory/keys"
	"consistory/samples"
)

// R4: what is handed in isn't changed, spare room included.
func TestHandedInStays(t *testing.T) {
	r := chance()
	seed := samples.Hash(r)
	root, before := keys.Root(seed), seed
	for i, text := range textsOf(r) {
		wholeText, view := samples.Roomy(text)
		wholeSig, sig := samples.Roomy(signedBy(seed, i%leaves, text))
		beforeText, beforeSig := slices.Clone(wholeText), slices.Clone(wholeSig)
		keys.Sign(seed, i%leaves, view)
		keys.Sign(seed, -1, view)
		keys.Verify(root, view, sig)
		keys.Verify(seed, view, sig)
		keys.Verify(root, view, sig[:whole-1])
		keys.Verify(root, sig, sig)
		if !bytes.Equal(wholeText, beforeText) || !bytes.Equal(wholeSig, beforeSig) {
			t.Errorf("a text of %d bytes, or its signature, is changed", len(text))
		}
	}
	keys.Seed(seed, 1)
	keys.Table(seed)
	if seed != before || root != rootOf(seed) {
		t.Error("a digest is changed")
	}
}

// R4: a signature is new memory: whoever writes into one changes no other, and nothing that was handed in.
func TestSignaturesAreNew(t *testing.T) {
	seed := samples.Hash(chance())
	text := []byte("text")
	want := signedBy(seed, 4, text)
	first, _ := keys.Sign(seed, 4, text)
	second, _ := keys.Sign(seed, 4, text)
	samples.Spoil(first)
	again, _ := keys.Sign(seed, 4, text)
	if !bytes.Equal(second, want) || !bytes.Equal(again, want) || string(text) != "text" {
		t.Error("it changes with an earlier one")
	}
	samples.Spoil(text)
	if !bytes.Equal(second, want) {
		t.Error("it changes with its text")
	}
}

// R4: a table is new memory: whoever writes into one changes no other, and into one of its lists no other list of it.
func TestTablesAreNew(t *testing.T) {
	master := samples.Hash(chance())
	first, second := keys.Table(master), keys.Table(master)
	want := keys.Table(master)
	for i := range first.Seals {
		samples.Spoil(first.Seals[i])
		for j := i + 1; j < len(first.Seals); j++ {
			if !bytes.Equal(first.Seals[j], want.Seals[j]) {
				t.Errorf("seal %d changes with seal %d", j, i)
			}
		}
		first.Seals[i] = nil
	}
	if !slices.Equal(first.Roots, want.Roots) {
		t.Error("roots change with seals")
	}
	clear(first.Roots[:cap(first.Roots)])
	clear(first.Seals[:cap(first.Seals)])
	if !reflect.DeepEqual(second, want) || !reflect.DeepEqual(keys.Table(master), want) {
		t.Error("it changes with an earlier one")
	}
}

// R3: nil and nothing are one.
func TestNilIsNothing(t *testing.T) {
	seed := samples.Hash(chance())
	root := keys.Root(seed)
	sig, _ := keys.Sign(seed, 1, nil)
	if other, e := keys.Sign(seed, 1, []byte{}); e != api.OK || !bytes.Equal(sig, other) {
		t.Error("Sign")
	}
	for _, text := range [][]byte{nil, {}} {
		if leaf, e := keys.Verify(root, text, sig); leaf != 1 || e != api.OK {
			t.Errorf("Verify of no text: %d, %v", leaf, e)
		}
		refused(t, "nil", root, text, nil, api.ErrForm)
		refused(t, "nothing", root, text, []byte{}, api.ErrForm)
	}
}

// R5: an answer hangs on the arguments alone, not on the calls ahead of it or beside it.
func TestSameAgain(t *testing.T) {
	r := chance()
	seed, texts := samples.Hash(r), textsOf(r)
	root, table := rootOf(seed), keys.Table(seed)
	var want [][]byte
	for i, text := range texts {
		want = append(want, signedBy(seed, i%leaves, text))
	}
	var w sync.WaitGroup
	for range 4 {
		w.Go(func() {
			for i, text := range texts {
				if sig, e := keys.Sign(seed, i%leaves, text); !bytes.Equal(sig, want[i]) || e != api.OK {
					t.Errorf("text %d has another signature", i)
				}
				if leaf, e := keys.Verify(root, text, want[i]); leaf != i%leaves || e != api.OK {
					t.Errorf("text %d: %d, %v", i, leaf, e)
				}
			}
			if keys.Root(seed) != root || !reflect.DeepEqual(keys.Table(seed), table) {
				t.Error("the root, or the table, is another")
			}
		})
	}
	w.Wait()
	for i, text := range slices.Backward(texts) {
		// What is told from within something greater is the same, also behind a refusal.
		_, view := samples.Roomy(text)
		_, sig := samples.Roomy(want[i])
		refused(t, "by another root", seed, view, sig, api.ErrTag)
		if leaf, e := keys.Verify(root, view, sig); leaf != i%leaves || e != api.OK {
			t.Errorf("text %d hangs on what is behind it: %d, %v", i, leaf, e)
		}
	}
}

// R1: every call ends and none panics, at all arguments.
func TestNeverPanics(t *testing.T) {
	r := chance()
	numbers := samples.Numbers()
	for range 200 {
		seed, text := samples.Hash(r), samples.Text(r, r.IntN(100))
		sig, _ := keys.Sign(seed, r.IntN(12)-2, text)
		keys.Sign(seed, int(r.Uint64()), text)
		keys.Verify(seed, text, sig)
		keys.Verify(seed, text, sig[r.IntN(len(sig)+1):])
		keys.Verify(seed, nil, samples.Text(r, whole-1+r.IntN(3)))
		keys.Root(keys.Seed(seed, numbers[r.IntN(len(numbers))]))
	}
}
