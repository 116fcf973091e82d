package samples

import (
	"math/bits"

	"consistory/api"
)

const stray = -999 // and so on: numbers that stand where there is no value

// Among are values of the keys of a set, a bit each: one behind the other those of the
// list, again and again.
func Among(set int, l []int64) [api.MaxKeys]api.Cell {
	var c [api.MaxKeys]api.Cell
	for key := range c {
		if set>>key&1 == 1 {
			c[key] = api.Cell{There: true, N: l[key%len(l)]}
		}
	}
	return c
}

// AnyCells are values of any keys, small ones and great ones.
func AnyCells(s Source) [api.MaxKeys]api.Cell {
	c := Among(below(s, 1<<api.MaxKeys), []int64{0})
	for key := range c {
		if c[key].There {
			c[key].N = AnyNumber(s)
		}
	}
	return c
}

// AnyNumber is one at an end, a small one or any of 64 bits.
func AnyNumber(s Source) int64 {
	switch ends := Ends(); below(s, 3) {
	case 0:
		return ends[below(s, len(ends))]
	case 1:
		return int64(below(s, 5)) - 2
	}
	return int64(s.Uint64())
}

// Strayed is c with a number at each key that has no value: one that means nothing.
func Strayed(c [api.MaxKeys]api.Cell) [api.MaxKeys]api.Cell {
	for key, cell := range c {
		if !cell.There {
			c[key].N = stray + int64(key)
		}
	}
	return c
}

// CellsBytes are the bytes of values. It calls no layer, so that it can be held against
// them.
func CellsBytes(c [api.MaxKeys]api.Cell) []byte {
	var there uint
	var pairs []byte
	for key, cell := range c {
		if cell.There {
			there |= 1 << key
			pairs = append(append(pairs, byte(key)), folded(cell.N)...)
		}
	}
	return append(packed(uint64(bits.OnesCount(there))), pairs...)
}

// folded is n with its sign, packed.
func folded(n int64) []byte {
	if n < 0 {
		return packed(2*uint64(-(n+1)) + 1)
	}
	return packed(2 * uint64(n))
}
