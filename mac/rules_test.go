package mac_test

import (
	"bytes"
	"slices"
	"sync"
	"testing"

	"consistory/api"
	"consistory/mac"
	"consistory/samples"
)

// R4: what is handed in isn't changed, spare room included.
func TestHandedInStays(t *testing.T) {
	r := chance()
	for _, n := range keyEdges() {
		for _, m := range textEdges() {
			wholeKey, key := samples.Roomy(samples.Text(r, n))
			wholeText, text := samples.Roomy(samples.Text(r, m))
			beforeKey, beforeText := slices.Clone(wholeKey), slices.Clone(wholeText)
			mac.Vector([][]byte{key, text, key}, text)
			mac.Check(key, text, mac.Tag(key, text))
			if !bytes.Equal(wholeKey, beforeKey) || !bytes.Equal(wholeText, beforeText) {
				t.Errorf("a key of %d bytes or a text of %d is changed", n, m)
			}
		}
	}
	master := samples.Hash(r)
	before := master
	mac.Derive(master, 1, 2)
	if master != before {
		t.Error("a master is changed")
	}
}

// R4: a list of keys isn't changed, its spare room included.
func TestListStays(t *testing.T) {
	one, long, beyond := []byte("one"), bytes.Repeat([]byte{7}, 70), []byte("beyond")
	room := [][]byte{one, long, beyond, nil}
	mac.Vector(room[:2], []byte("text"))
	if &room[0][0] != &one[0] || &room[1][0] != &long[0] || &room[2][0] != &beyond[0] || room[3] != nil {
		t.Error("the list has other keys")
	}
	if len(room[0]) != 3 || len(room[1]) != 70 || cap(room[0]) != cap(one) || cap(room[1]) != cap(long) {
		t.Error("a key has other bounds")
	}
}

// R4: what is answered is new memory: whoever writes into it changes nothing else.
func TestAnswersAreNew(t *testing.T) {
	r := chance()
	keys, text, master := anyKeys(r), samples.Text(r, 20), samples.Hash(r)
	tags, key := mac.Vector(keys, text), mac.Derive(master, 3, 4)
	others, other := mac.Vector(keys, text), mac.Derive(master, 3, 4)
	for i := range tags[:cap(tags)] {
		tags[:cap(tags)][i] = api.Hash{1}
	}
	samples.Spoil(key)
	again := mac.Vector(keys, text)
	for i, k := range keys {
		if want := reference(k, text); others[i] != want || again[i] != want {
			t.Errorf("tag %d changes with an earlier answer", i)
		}
	}
	if want := derived(master, 3, 4); !bytes.Equal(other, want) || !bytes.Equal(mac.Derive(master, 3, 4), want) {
		t.Error("a key changes with an earlier answer")
	}
}

// R3: nil and nothing are one.
func TestNilIsNothing(t *testing.T) {
	empty, text := []byte{}, []byte("text")
	want := reference(nil, nil)
	if mac.Tag(nil, nil) != want || mac.Tag(empty, empty) != want || mac.Tag(nil, empty) != want || mac.Tag(empty, nil) != want {
		t.Error("Tag")
	}
	if !mac.Check(nil, nil, want) || !mac.Check(empty, empty, want) {
		t.Error("Check")
	}
	if !slices.Equal(mac.Vector([][]byte{nil}, text), mac.Vector([][]byte{{}}, text)) {
		t.Error("Vector")
	}
}

// R5: an answer hangs on the arguments alone, not on the calls ahead of it or beside it.
func TestSameAgain(t *testing.T) {
	r := chance()
	keys, text, master := anyKeys(r), samples.Text(r, 90), samples.Hash(r)
	var want []api.Hash
	for _, key := range keys {
		want = append(want, reference(key, text))
	}
	var w sync.WaitGroup
	for range 4 {
		w.Go(func() {
			for i, key := range keys {
				if mac.Tag(key, text) != want[i] || !mac.Check(key, text, want[i]) {
					t.Errorf("key %d has another tag", i)
				}
			}
			if !slices.Equal(mac.Vector(keys, text), want) {
				t.Error("the vector is another")
			}
			if !bytes.Equal(mac.Derive(master, 5, 6), derived(master, 5, 6)) {
				t.Error("the derived key is another")
			}
		})
	}
	w.Wait()
	for i, key := range slices.Backward(keys) {
		// A key or a text that is told from within a greater one is the same.
		wholeKey, view := samples.Roomy(key)
		wholeText, told := samples.Roomy(text)
		clipped := mac.Tag(slices.Clip(wholeKey[:len(key)]), slices.Clip(wholeText[:len(text)]))
		if mac.Tag(view, told) != want[i] || clipped != want[i] {
			t.Errorf("key %d hangs on what is behind it", i)
		}
	}
}

// R4: a text that is its own key, or a piece of it, is taken as any other.
func TestKeyWithinText(t *testing.T) {
	r := chance()
	for _, n := range keyEdges() {
		b := samples.Text(r, n)
		for i := range n + 1 {
			key, text := bytes.Clone(b[:i]), bytes.Clone(b)
			if mac.Tag(b[:i], b) != reference(key, text) {
				t.Errorf("the first %d of %d bytes as key: another tag", i, n)
			}
		}
	}
}

// R1: every call ends and none panics, at all arguments.
func TestNeverPanics(t *testing.T) {
	r := chance()
	numbers := samples.Numbers()
	for range 300 {
		keys := make([][]byte, r.IntN(9))
		for i := range keys {
			keys[i] = samples.Text(r, r.IntN(150))
		}
		text := samples.Text(r, r.IntN(150))
		h := mac.Tag(text, text)
		for i, tag := range mac.Vector(keys, text) {
			mac.Check(keys[i], nil, tag)
		}
		mac.Derive(h, numbers[r.IntN(len(numbers))], int(r.Uint64()))
	}
	mac.Vector(make([][]byte, 1000), nil)
}
