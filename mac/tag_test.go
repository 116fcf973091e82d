package mac_test

import (
	"bytes"
	"testing"

	"consistory/api"
	"consistory/mac"
	"consistory/samples"
	"consistory/sha"
)

// P3.1: tags that are known, of keys shorter than 64 bytes and longer.
func TestTagKnown(t *testing.T) {
	long := bytes.Repeat([]byte{0xaa}, 131)
	var counted []byte
	for i := range byte(25) {
		counted = append(counted, i+1)
	}
	for _, c := range []struct {
		key, text []byte
		want      string
	}{
		{nil, nil, "b613679a0814d9ec772f95d778c35fc5ff1697c493715653c6c712144292c5ad"},
		{[]byte("Jefe"), []byte("what do ya want for nothing?"), "5bdcc146bf60754e6a042426089575c75a003f089d2739839dec58b964ec3843"},
		{bytes.Repeat([]byte{0x0b}, 20), []byte("Hi There"), "b0344c61d8db38535ca8afceaf0bf12b881dc200c9833da726e9376c2e32cff7"},
		{bytes.Repeat([]byte{0xaa}, 20), bytes.Repeat([]byte{0xdd}, 50), "773ea91e36800e46854db8ebd09181a72959098b3ef8c122d9635514ced565fe"},
		{counted, bytes.Repeat([]byte{0xcd}, 50), "82558a389a443c0ea4cc819899f2083a85f0faa3e578f8077a2e3ff46729665b"},
		{long, []byte("Test Using Larger Than Block-Size Key - Hash Key First"), "60e431591ee0b67f0d8a26aacbf5b77f8e0bc6213728c5140546040f0ee37f54"},
		{long, []byte("This is a test using a larger than block-size key and a larger than block-size data. The key needs to be hashed before being used by the HMAC algorithm."), "9b09ffa71b942fcb27635fbcd5b0e944bfdc63644f0713938a7f51535c3a35e2"},
	} {
		if got := hexed(mac.Tag(c.key, c.text)); got != c.want {
			t.Errorf("by %x of %q: %s; want %s", c.key, c.text, got, c.want)
		}
	}
}

// P3.1: of every length of key about 64, and of text, the tag is the library's.
func TestTagLengths(t *testing.T) {
	r := chance()
	for n := range 140 {
		for _, m := range textEdges() {
			key, text := samples.Text(r, n), samples.Text(r, m)
			if got, want := mac.Tag(key, text), reference(key, text); got != want {
				t.Errorf("a key of %d bytes, a text of %d: %s; want %s", n, m, hexed(got), hexed(want))
			}
		}
	}
	for _, n := range []int{4095, 4096, api.MaxText, api.MaxText + 1, 1 << 20} {
		b := samples.Text(r, n)
		if mac.Tag(b, b) != reference(b, b) {
			t.Errorf("a key and a text of %d bytes: another tag", n)
		}
	}
}

// P3.1: a key of more than 64 bytes is its digest, one of 64 isn't.
func TestTagOfLongKey(t *testing.T) {
	r := chance()
	text := samples.Text(r, 40)
	for _, n := range keyEdges() {
		key := samples.Text(r, n)
		h := sha.Sum(key)
		if same := mac.Tag(key, text) == mac.Tag(h[:], text); same != (n > 64) {
			t.Errorf("a key of %d bytes: is it its digest? %v", n, same)
		}
	}
}

// P3.1: bytes 0 fill a key up to 64, so that one is the same with some of them or all; beyond 64 it isn't.
func TestTagOfFilledKey(t *testing.T) {
	r := chance()
	text := samples.Text(r, 40)
	for _, n := range []int{0, 1, 32, 63, 64} {
		key := samples.Text(r, n)
		want := mac.Tag(key, text)
		for m := n; m <= 66; m++ {
			filled := append(bytes.Clone(key), make([]byte, m-n)...)
			if same := mac.Tag(filled, text) == want; same != (m <= 64 || m == n) {
				t.Errorf("a key of %d bytes, filled to %d: the same? %v", n, m, same)
			}
		}
	}
}

// P3.1: each byte of the key and of the text, its first and its last, tells.
func TestTagTells(t *testing.T) {
	r := chance()
	for _, n := range keyEdges() {
		key, text := samples.Text(r, n), samples.Text(r, 70)
		want := mac.Tag(key, text)
		for i := range key {
			other := bytes.Clone(key)
			other[i] ^= 1 << r.IntN(8)
			if mac.Tag(other, text) == want {
				t.Errorf("byte %d of a key of %d does nothing", i, n)
			}
		}
		for i := range text {
			other := bytes.Clone(text)
			other[i] ^= 1 << r.IntN(8)
			if mac.Tag(key, other) == want {
				t.Errorf("byte %d of the text does nothing", i)
			}
		}
	}
}

// P3.1: what stands at the key's end isn't taken for the text's beginning.
func TestTagTellsKeyFromText(t *testing.T) {
	both := samples.Text(chance(), 60)
	seen := map[api.Hash]int{}
	for i := range both {
		h := mac.Tag(both[:i], both[i:])
		if j, there := seen[h]; there {
			t.Errorf("cut at %d and at %d: the same tag", j, i)
		}
		seen[h] = i
	}
}
