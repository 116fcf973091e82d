package mac_test

import (
	"bytes"
	"testing"

	"consistory/api"
	"consistory/mac"
	"consistory/samples"
)

// P3.3: what is tagged is right by its key.
func TestCheckOfTagged(t *testing.T) {
	r := chance()
	for _, n := range keyEdges() {
		for _, m := range textEdges() {
			key, text := samples.Text(r, n), samples.Text(r, m)
			if !mac.Check(key, text, mac.Tag(key, text)) {
				t.Errorf("a key of %d bytes, a text of %d: the tag isn't right", n, m)
			}
			if !mac.Check(key, text, reference(key, text)) {
				t.Errorf("a key of %d bytes, a text of %d: the library's tag isn't right", n, m)
			}
		}
	}
}

// P3.1: Check tells any other tag, be it by one bit.
func TestCheckOfOtherTag(t *testing.T) {
	r := chance()
	for _, n := range keyEdges() {
		key, text := samples.Text(r, n), samples.Text(r, n)
		tag := reference(key, text)
		for bit := range 8 * len(tag) {
			other := tag
			other[bit/8] ^= 1 << (bit % 8)
			if mac.Check(key, text, other) {
				t.Errorf("a key of %d bytes: a tag with another bit %d is right", n, bit)
			}
		}
		if mac.Check(key, text, api.Hash{}) || mac.Check(key, text, samples.Hash(r)) {
			t.Errorf("a key of %d bytes: a tag that is none is right", n)
		}
	}
}

// P3.1: Check tells a tag of another text, and one by another key.
func TestCheckOfOthers(t *testing.T) {
	r := chance()
	for _, n := range keyEdges() {
		key, text := samples.Text(r, n), samples.Text(r, 50)
		tag := mac.Tag(key, text)
		longer := append(bytes.Clone(text), 0)
		if mac.Check(key, text[:49], tag) || mac.Check(key, longer, tag) || mac.Check(key, nil, tag) {
			t.Errorf("a key of %d bytes: right for another text", n)
		}
		if mac.Check(append(bytes.Clone(key), 1), text, tag) || mac.Check(text, key, tag) {
			t.Errorf("a key of %d bytes: right by another key", n)
		}
	}
}
