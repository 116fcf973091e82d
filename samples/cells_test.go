package samples_test

import (
	"bytes"
	"encoding/binary"
	"math"
	"math/rand/v2"
	"slices"
	"testing"

	"consistory/api"
	"consistory/samples"
)

// Keys of the set alone have values, each the one of the list that is its own.
func TestAmong(t *testing.T) {
	for _, set := range []int{0, 1, 1 << 15, 0x8421, 1<<16 - 1, 1<<20 | 2} {
		for key, cell := range samples.Among(set, []int64{7, -8, 9}) {
			want := api.Cell{}
			if set>>key&1 == 1 {
				want = api.Cell{There: true, N: []int64{7, -8, 9}[key%3]}
			}
			if cell != want {
				t.Errorf("of %b key %d has %v", set, key, cell)
			}
		}
	}
}

// Values of any keys are the same again from the same source; each key has one at times, and at times none, with numbers of all sorts.
func TestAnyCells(t *testing.T) {
	a, b := rand.New(rand.NewPCG(1, 2)), rand.New(rand.NewPCG(1, 2))
	var there [16]int
	small, end, other := 0, 0, 0
	for range 3000 {
		c := samples.AnyCells(a)
		if c != samples.AnyCells(b) {
			t.Fatal("they are others")
		}
		for key, cell := range c {
			switch {
			case !cell.There:
				if cell.N != 0 {
					t.Fatalf("key %d has no value, but %d", key, cell.N)
				}
				continue
			case cell.N >= -2 && cell.N <= 2:
				small++
			case slices.Contains(samples.Ends(), cell.N):
				end++
			default:
				other++
			}
			there[key]++
		}
	}
	if slices.Min(there[:]) < 1000 || slices.Max(there[:]) > 2000 || min(small, end, other) < 5000 {
		t.Errorf("%d; %d small ones, %d at the ends, %d others", there, small, end, other)
	}
}

// Where there is no value a number stands that is no other key's; values stay.
func TestStrayed(t *testing.T) {
	for _, set := range []int{0, 5, 0xf0f0, 1<<16 - 1} {
		c := samples.Among(set, []int64{3})
		seen := map[int64]bool{}
		for key, cell := range samples.Strayed(c) {
			if cell.There != c[key].There || cell.There && cell.N != 3 {
				t.Errorf("of %b key %d has %v", set, key, cell)
			}
			if !cell.There && (cell.N == 0 || seen[cell.N]) {
				t.Errorf("of %b key %d has the number %d", set, key, cell.N)
			}
			seen[cell.N] = !cell.There
		}
	}
}

// The bytes of values are what the library makes of each key that has one, with how many these are ahead.
func TestCellsBytes(t *testing.T) {
	r := rand.New(rand.NewPCG(1, 2))
	for range 2000 {
		c := samples.AnyCells(r)
		var pairs []byte
		n := uint64(0)
		for key, cell := range c {
			if cell.There {
				pairs = binary.AppendVarint(append(pairs, byte(key)), cell.N)
				n++
			}
		}
		want := append(binary.AppendUvarint(nil, n), pairs...)
		if b := samples.CellsBytes(c); !bytes.Equal(b, want) {
			t.Errorf("%v: % x; want % x", c, b, want)
		}
		if b := samples.CellsBytes(samples.Strayed(c)); !bytes.Equal(b, want) {
			t.Errorf("strayed %v: % x; want % x", c, b, want)
		}
	}
	for _, n := range append(samples.Ends(), math.MinInt64) {
		want := binary.AppendVarint([]byte{1, 0}, n)
		if b := samples.CellsBytes(samples.Among(1, []int64{n})); !bytes.Equal(b, want) {
			t.Errorf("%d: % x; want % x", n, b, want)
		}
	}
}
