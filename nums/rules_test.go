package nums_test

import (
	"bytes"
	"math"
	"slices"
	"testing"

	"consistory/api"
	"consistory/nums"
	"consistory/samples"
)

// puts are the ways to put something behind a list; each puts something that fits into the spare room of samples.
func puts() map[string]func(b []byte) []byte {
	return map[string]func(b []byte) []byte{
		"PutFixed(1)": func(b []byte) []byte { return nums.PutFixed(b, 1, 1) },
		"PutFixed(8)": func(b []byte) []byte { return nums.PutFixed(b, 2, 8) },
		"PutFixed(3)": func(b []byte) []byte { return nums.PutFixed(b, 3, 3) },
		"PutPacked":   func(b []byte) []byte { return nums.PutPacked(b, math.MaxUint64) },
		"PutFolded":   func(b []byte) []byte { return nums.PutFolded(b, -4) },
		"PutText":     func(b []byte) []byte { return nums.PutText(b, []byte("text")) },
		"PutText(0)":  func(b []byte) []byte { return nums.PutText(b, nil) },
	}
}

// R4: what is handed in isn't changed, spare room included, and not shared.
func TestPutsShareNothing(t *testing.T) {
	for name, put := range puts() {
		for _, text := range []string{"", "a", "abcdefgh"} {
			whole, b := samples.Roomy([]byte(text))
			before := slices.Clone(whole)
			first := put(b)
			want := slices.Clone(first)
			second := put(b)
			if !bytes.Equal(whole, before) {
				t.Errorf("%s changed what was handed in", name)
			}
			samples.Spoil(second)
			if !bytes.Equal(whole, before) {
				t.Errorf("%s shares its answer with what was handed in", name)
			}
			samples.Spoil(whole)
			if !bytes.Equal(first, want) {
				t.Errorf("%s shares one answer with another, or with what was handed in", name)
			}
		}
	}
}

// R4: the text that is put is neither changed nor shared.
func TestPutTextShareNothing(t *testing.T) {
	whole, text := samples.Roomy([]byte("some text"))
	before := slices.Clone(whole)
	got := nums.PutText(nil, text)
	want := slices.Clone(got)
	samples.Spoil(whole)
	if !bytes.Equal(got, want) {
		t.Error("the answer shares the text")
	}
	samples.Spoil(whole)
	samples.Spoil(got)
	if !bytes.Equal(whole, before) {
		t.Error("the text shares the answer")
	}
}

// R4: a reader has bytes of its own, and leaves those that were handed in.
func TestReaderKeepsNothing(t *testing.T) {
	whole, b := samples.Roomy([]byte{0x12, 0x34, 0xac, 0x02, 0x05, 2, 'a', 'b', 7})
	before := slices.Clone(whole)
	r := nums.New(b)
	samples.Spoil(whole)
	if x, e := r.Fixed(2); x != 0x1234 || e != api.OK {
		t.Error("Fixed:", x, e)
	}
	if x, e := r.Packed(); x != 300 || e != api.OK {
		t.Error("Packed:", x, e)
	}
	if x, e := r.Folded(); x != -3 || e != api.OK {
		t.Error("Folded:", x, e)
	}
	if s, e := r.Text(2); string(s) != "ab" || e != api.OK {
		t.Error("Text:", s, e)
	}
	if n, e := r.Count(7); n != 7 || e != api.OK {
		t.Error("Count:", n, e)
	}
	samples.Spoil(whole)
	if !bytes.Equal(whole, before) {
		t.Error("the reader changed what was handed in")
	}
}

// R4: texts that are answered share nothing with the reader or each other.
func TestTextSharesNothing(t *testing.T) {
	whole, b := samples.Roomy([]byte{2, 'a', 'b', 0, 2, 'c', 'd', 1, 'e', 9})
	before := slices.Clone(whole)
	r := nums.New(b)
	var got [][]byte
	for _, want := range []string{"ab", "", "cd", "e"} {
		s, e := r.Text(2)
		if string(s) != want || e != api.OK {
			t.Errorf("%q, %v; want %q", s, e, want)
		}
		got = append(got, slices.Clone(s))
		// Whoever writes into what was answered, spare room included, spoils no later answer.
		samples.Spoil(s)
		s = append(s, "XXXXXXXXXXXXXXXX"...)
	}
	if !bytes.Equal(bytes.Join(got, []byte("|")), []byte("ab||cd|e")) {
		t.Errorf("%q", got)
	}
	if x, e := r.Packed(); x != 9 || e != api.OK || !bytes.Equal(whole, before) {
		t.Error("an answer shares memory:", x, e)
	}
}

// R3: nil and empty are one, handed in and answered.
func TestNilIsEmpty(t *testing.T) {
	for name, put := range puts() {
		if !bytes.Equal(put(nil), put([]byte{})) {
			t.Errorf("%s takes nil otherwise than nothing", name)
		}
	}
	if !bytes.Equal(nums.PutText([]byte{1}, nil), nums.PutText([]byte{1}, []byte{})) {
		t.Error("PutText takes a text that is nil otherwise than none")
	}
	if nums.New(nil).Done() != nums.New([]byte{}).Done() {
		t.Error("New takes nil otherwise than nothing")
	}
}

// R5: readers know nothing of each other, nor a call of calls ahead of it.
func TestSameAgain(t *testing.T) {
	b := []byte{0x12, 2, 'a', 'b', 0x81}
	one, two := nums.New(b), nums.New(b)
	one.Fixed(1)
	one.Text(9)
	at(t, "the other reader", two, 0, len(b))
	for name, put := range puts() {
		first := put([]byte{4})
		if again := put([]byte{4}); !bytes.Equal(first, again) {
			t.Errorf("%s: %x, then %x", name, first, again)
		}
	}
	if x, e := two.Fixed(1); x != 0x12 || e != api.OK {
		t.Error(x, e)
	}
}

// R1: every call ends and none panics, at all arguments.
func TestNeverPanics(t *testing.T) {
	ints := []int{math.MinInt, -9, -1, 0, 1, 2, 3, 4, 7, 8, 9, 1 << 20, math.MaxInt}
	next := random()
	for range 2000 {
		b := make([]byte, next()%24)
		for i := range b {
			b[i] = byte(next() >> (next() % 9))
		}
		r := nums.New(b)
		for range 12 {
			n := ints[next()%uint64(len(ints))]
			before := r.At()
			e := readOne(r, int(next()%5), n)
			if e != api.OK && r.At() != before {
				t.Errorf("of %x: an error, and the reader went on from %d to %d", b, before, r.At())
			}
			if r.At() < before || r.At()+r.Left() != len(b) || r.Left() < 0 {
				t.Errorf("of %x: At %d, Left %d", b, r.At(), r.Left())
			}
			nums.PutFixed(b, next(), n)
		}
	}
}

// readOne reads one thing in the way told.
func readOne(r *nums.Reader, way, n int) (e api.Errno) {
	switch way {
	case 0:
		_, e = r.Fixed(n)
	case 1:
		_, e = r.Packed()
	case 2:
		_, e = r.Folded()
	case 3:
		_, e = r.Count(n)
	default:
		_, e = r.Text(n)
	}
	return e
}
