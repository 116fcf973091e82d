package samples_test

import (
	"bytes"
	"encoding/binary"
	"math/rand/v2"
	"testing"

	"consistory/api"
	"consistory/samples"
)

// A text has as many bytes as are asked for, and is the same again from the same source.
func TestText(t *testing.T) {
	a, b := rand.New(rand.NewPCG(1, 2)), rand.New(rand.NewPCG(1, 2))
	for n := range 40 {
		x, y := samples.Text(a, n), samples.Text(b, n)
		if len(x) != n || !bytes.Equal(x, y) {
			t.Errorf("%d bytes: %x and %x", n, x, y)
		}
	}
	if h := samples.Hash(a); h != samples.Hash(b) || h == (api.Hash{}) {
		t.Errorf("a digest: %x", h)
	}
}

// Of each length there is a text, in order, and none is another's memory.
func TestTexts(t *testing.T) {
	r := rand.New(rand.NewPCG(1, 2))
	l := samples.Texts(r, 3, 0, 40, 40)
	for i, n := range []int{3, 0, 40, 40} {
		if len(l) != 4 || len(l[i]) != n {
			t.Fatalf("%x", l)
		}
	}
	if bytes.Equal(l[2], l[3]) || len(samples.Texts(r)) != 0 {
		t.Errorf("%x", l)
	}
}

// Ahead of the bytes stands what the library makes of their length.
func TestLengthAnd(t *testing.T) {
	r := rand.New(rand.NewPCG(1, 2))
	for _, n := range []int{0, 1, 2, 100, 127, 128, 129, 255, 256, 1000, 16383, 16384, 65535, 65536, 1<<21 - 1, 1 << 21} {
		b := samples.Text(r, n)
		before := bytes.Clone(b)
		want := append(binary.AppendUvarint(nil, uint64(n)), b...)
		if got := samples.LengthAnd(b); !bytes.Equal(got, want) || !bytes.Equal(b, before) {
			t.Errorf("%d bytes begin with % x", n, got[:min(len(got), 5)])
		}
	}
}

// No digest is there twice; the noughts and the ones stand ahead.
func TestHashes(t *testing.T) {
	l := samples.Hashes(rand.New(rand.NewPCG(1, 2)))
	seen := map[api.Hash]bool{}
	for _, h := range l {
		seen[h] = true
	}
	if len(seen) != len(l) || l[0] != (api.Hash{}) || !bytes.Equal(l[1][:], bytes.Repeat([]byte{0xff}, 32)) {
		t.Errorf("%x", l)
	}
}

// A view shares its array with the whole, which has room behind it.
func TestRoomy(t *testing.T) {
	for _, b := range [][]byte{nil, {1}, {1, 2, 3}} {
		whole, view := samples.Roomy(b)
		if !bytes.Equal(view, b) || len(whole) <= len(b) || cap(view) < len(whole) {
			t.Errorf("%x: %x of %x", b, view, whole)
		}
		view = append(view, 5)
		if whole[len(b)] != 5 || !bytes.Equal(view[:len(b)], b) {
			t.Errorf("%x: what is put behind the view isn't in the whole", b)
		}
	}
}

// Spoiling changes each byte, those of the spare room too; done twice it is as if never done.
func TestSpoil(t *testing.T) {
	whole, view := samples.Roomy([]byte{1, 2, 3})
	before := bytes.Clone(whole)
	samples.Spoil(view)
	for i := range whole {
		if whole[i] == before[i] {
			t.Errorf("byte %d is as it was", i)
		}
	}
	samples.Spoil(view)
	if !bytes.Equal(whole, before) {
		t.Errorf("%x; want %x", whole, before)
	}
	samples.Spoil(nil)
}

// No number is there twice, and one that is handed out is nobody else's.
func TestNumbers(t *testing.T) {
	l := samples.Numbers()
	seen := map[int]bool{}
	for i, n := range l {
		if seen[n] {
			t.Errorf("%d is there twice", n)
		}
		seen[n] = true
		l[i] = 7
	}
	if again := samples.Numbers(); len(again) != len(seen) || again[0] == 7 || !seen[0] || !seen[-1] {
		t.Error("the numbers are others:", again)
	}
}
