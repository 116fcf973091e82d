package sha_test

import (
	"bytes"
	"math"
	"slices"
	"sync"
	"testing"

	"consistory/api"
	"consistory/samples"
	"consistory/sha"
)

// R4: what is handed in isn't changed, spare room included.
func TestHandedInStays(t *testing.T) {
	r := chance()
	for _, n := range edges() {
		whole, text := samples.Roomy(samples.Text(r, n))
		before := slices.Clone(whole)
		sha.Sum(text)
		sha.All([][]byte{text, text})
		if !bytes.Equal(whole, before) {
			t.Errorf("a text of %d bytes is changed", n)
		}
	}
	a, b := samples.Hash(r), samples.Hash(r)
	x, y := a, b
	sha.Pair(a, b)
	sha.Chain(a, 3)
	if a != x || b != y {
		t.Error("a digest is changed")
	}
}

// R4: a list that is handed in isn't changed, its spare room included.
func TestListStays(t *testing.T) {
	one, two, beyond := []byte("one"), []byte("two"), []byte("beyond")
	room := [][]byte{one, two, beyond, nil, beyond}
	sha.All(room[:2])
	for i, want := range []string{"one", "two", "beyond", "", "beyond"} {
		if string(room[i]) != want {
			t.Errorf("text %d became %q", i, room[i])
		}
	}
	if &room[0][0] != &one[0] || &room[1][0] != &two[0] || room[3] != nil || &room[4][0] != &beyond[0] {
		t.Error("the list has other texts")
	}
	if len(room[0]) != 3 || cap(room[0]) != cap(one) {
		t.Error("a text has other bounds")
	}
}

// R3: nil and nothing are one.
func TestNilIsNothing(t *testing.T) {
	if sha.Sum(nil) != sha.Sum([]byte{}) {
		t.Error("Sum")
	}
	if sha.All(nil) != sha.All([][]byte{}) || sha.All([][]byte{nil}) != sha.All([][]byte{{}}) {
		t.Error("All")
	}
}

// R5: an answer hangs on the arguments alone, not on the calls ahead of it or beside it.
func TestSameAgain(t *testing.T) {
	r := chance()
	texts := make([][]byte, 50)
	want := make([]api.Hash, len(texts))
	for i := range texts {
		texts[i] = samples.Text(r, 7*i)
		want[i] = reference(texts[i])
	}
	var w sync.WaitGroup
	for range 4 {
		w.Go(func() {
			for i, text := range texts {
				if sha.Sum(text) != want[i] || sha.Chain(want[i], 1) != sha.Sum(want[i][:]) {
					t.Errorf("text %d has another digest", i)
				}
			}
		})
	}
	w.Wait()
	for i, text := range slices.Backward(texts) {
		// A text that is told from within a greater one is the same text.
		whole, view := samples.Roomy(text)
		if sha.Sum(view) != want[i] || sha.Sum(slices.Clip(whole[:len(text)])) != want[i] {
			t.Errorf("text %d hangs on what is behind it", i)
		}
	}
}

// R1: every call ends and none panics, at all arguments.
func TestNeverPanics(t *testing.T) {
	r := chance()
	ints := []int{math.MinInt, -1, 0, 1, 4095, 4096, 4097, math.MaxInt}
	for i := range 300 {
		text := samples.Text(r, r.IntN(200))
		l := make([][]byte, r.IntN(9))
		for j := range l {
			l[j] = text[r.IntN(len(text)+1):]
		}
		h := sha.All(l)
		h = sha.Pair(h, sha.Sum(text))
		if i < len(ints) {
			sha.Chain(h, ints[i])
		}
	}
}
