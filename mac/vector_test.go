package mac_test

import (
	"slices"
	"testing"

	"consistory/api"
	"consistory/mac"
	"consistory/samples"
)

// P3.1: Vector is each key's tag, in the keys' order.
func TestVector(t *testing.T) {
	r := chance()
	for _, m := range textEdges() {
		keys, text := anyKeys(r), samples.Text(r, m)
		var want []api.Hash
		for _, key := range keys {
			want = append(want, reference(key, text))
		}
		if got := mac.Vector(keys, text); !slices.Equal(got, want) {
			t.Errorf("of a text of %d bytes: %x; want %x", m, got, want)
		}
	}
}

// P3.1: there are as many tags as keys, from none on.
func TestVectorLengths(t *testing.T) {
	r := chance()
	text := samples.Text(r, 10)
	keys := anyKeys(r)
	all := mac.Vector(keys, text)
	for n := range len(keys) + 1 {
		if got := mac.Vector(keys[:n], text); !slices.Equal(got, all[:n]) {
			t.Errorf("by %d keys: %x; want %x", n, got, all[:n])
		}
	}
	if len(mac.Vector(nil, text)) != 0 || len(mac.Vector([][]byte{}, nil)) != 0 {
		t.Error("by no key there are tags")
	}
}

// P3.1: a key that comes twice, or that is nothing, has its tag at each place.
func TestVectorOfSameKeys(t *testing.T) {
	text := []byte("text")
	a, none := reference([]byte("a"), text), reference(nil, text)
	got := mac.Vector([][]byte{[]byte("a"), nil, []byte("a"), {}, nil}, text)
	if want := []api.Hash{a, none, a, none, none}; !slices.Equal(got, want) {
		t.Errorf("%x; want %x", got, want)
	}
}

// P3.3: each of a vector is right by its key, and by no other.
func TestVectorChecked(t *testing.T) {
	r := chance()
	keys, text := anyKeys(r), samples.Text(r, 80)
	for i, tag := range mac.Vector(keys, text) {
		for j, key := range keys {
			if mac.Check(key, text, tag) != (i == j) {
				t.Errorf("tag %d by key %d: right? %v", i, j, i != j)
			}
		}
	}
}
