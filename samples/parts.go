package samples

import (
	"bytes"

	"consistory/api"
)

const (
	tagSize  = 32 // bytes of the tag behind a message
	bareSize = 74 // bytes of a sealed message that has neither a body nor parts
)

// Refusal is a part that isn't taken, and why.
type Refusal struct {
	Part []byte
	Want api.Errno
}

// Unopened are parts that none of members 0 to 3 can have told, each with why it doesn't
// open. They are made of m, which has neither a body nor parts, and are told by a table
// in which all have seals.
func Unopened(seal Sealer, k api.Keys, m api.Msg) []Refusal {
	one := By(seal, k, 3, m)
	bare := one[:len(one)-tagSize]
	tooMany := append(bytes.Clone(Cut(bare)), api.MaxParts+1) // parts, in the place of none
	l := []Refusal{
		{nil, api.ErrShort}, {[]byte{}, api.ErrShort}, {[]byte{1}, api.ErrShort},
		{make([]byte, tagSize-1), api.ErrShort}, {make([]byte, tagSize), api.ErrShort},
		{Cut(one), api.ErrShort}, {bytes.Clone(one[:50]), api.ErrShort}, {bytes.Clone(bare), api.ErrShort},
		{append(bytes.Clone(one), 0), api.ErrForm}, {bytes.Repeat(one, 2), api.ErrForm},
		{append(tooMany, make([]byte, 60)...), api.ErrRange},
		{make([]byte, api.MaxText+1), api.ErrFull},
		{make([]byte, bareSize), api.ErrArg},
		{Spoilt(one), api.ErrTag}, {append(bytes.Clone(bare), make([]byte, tagSize)...), api.ErrTag},
	}
	for from := range api.MaxNodes {
		b := By(seal, k, from, m)
		if from > 3 {
			l = append(l, Refusal{bytes.Clone(b), api.ErrWho})
		}
		b[1] = byte((from + 1) % api.MaxNodes) // what one says of itself as another
		l = append(l, Refusal{b, api.ErrTag})
	}
	return l
}

// Taker takes parts.
type Taker interface {
	Take(part []byte) api.Errno
}

// Takes checks what is answered to each of the parts, in their order.
func Takes(t Test, what string, x Taker, want api.Errno, parts ...[]byte) {
	t.Helper()
	for i, part := range parts {
		if e := x.Take(part); e != want {
			t.Errorf("%s: part %d, of %d bytes: %v; want %v", what, i, len(part), e, want)
		}
	}
}

// Chosen are those of l of which the set has the bit.
func Chosen[V any](l []V, set int) []V {
	var some []V
	for i, v := range l {
		if set>>i&1 == 1 {
			some = append(some, v)
		}
	}
	return some
}

// Far are numbers of which none is x, such of which the lowest bits are those of x
// among them.
func Far(x int) []int {
	l := []int{x - 1, x + 1, x + 1<<8, x + 1<<16, x + 1<<32, x - 1<<8, x - 1<<16, x - 1<<32}
	for _, n := range Numbers() {
		if n != x {
			l = append(l, n)
		}
	}
	return l
}
