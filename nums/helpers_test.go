package nums_test

import (
	"bytes"
	"math"
	"slices"
	"testing"

	"consistory/api"
	"consistory/nums"
)

// packedCase is a number and the bytes that tell it, written out by hand.
type packedCase struct {
	x uint64
	b []byte
}

// packedCases are numbers on both sides of each edge at which another byte is needed.
func packedCases() []packedCase {
	return []packedCase{
		{0, []byte{0x00}},
		{1, []byte{0x01}},
		{127, []byte{0x7f}},
		{128, []byte{0x80, 0x01}},
		{300, []byte{0xac, 0x02}},
		{1<<14 - 1, []byte{0xff, 0x7f}},
		{1 << 14, []byte{0x80, 0x80, 0x01}},
		{1<<21 - 1, []byte{0xff, 0xff, 0x7f}},
		{1 << 21, []byte{0x80, 0x80, 0x80, 0x01}},
		{1<<28 - 1, []byte{0xff, 0xff, 0xff, 0x7f}},
		{1 << 28, []byte{0x80, 0x80, 0x80, 0x80, 0x01}},
		{1<<35 - 1, []byte{0xff, 0xff, 0xff, 0xff, 0x7f}},
		{1 << 35, []byte{0x80, 0x80, 0x80, 0x80, 0x80, 0x01}},
		{1<<42 - 1, []byte{0xff, 0xff, 0xff, 0xff, 0xff, 0x7f}},
		{1 << 42, []byte{0x80, 0x80, 0x80, 0x80, 0x80, 0x80, 0x01}},
		{1<<49 - 1, []byte{0xff, 0xff, 0xff, 0xff, 0xff, 0xff, 0x7f}},
		{1 << 49, []byte{0x80, 0x80, 0x80, 0x80, 0x80, 0x80, 0x80, 0x01}},
		{1<<56 - 1, []byte{0xff, 0xff, 0xff, 0xff, 0xff, 0xff, 0xff, 0x7f}},
		{1 << 56, []byte{0x80, 0x80, 0x80, 0x80, 0x80, 0x80, 0x80, 0x80, 0x01}},
		{1<<63 - 1, []byte{0xff, 0xff, 0xff, 0xff, 0xff, 0xff, 0xff, 0xff, 0x7f}},
		{1 << 63, []byte{0x80, 0x80, 0x80, 0x80, 0x80, 0x80, 0x80, 0x80, 0x80, 0x01}},
		{1<<63 + 1, []byte{0x81, 0x80, 0x80, 0x80, 0x80, 0x80, 0x80, 0x80, 0x80, 0x01}},
		{math.MaxUint64, []byte{0xff, 0xff, 0xff, 0xff, 0xff, 0xff, 0xff, 0xff, 0xff, 0x01}},
		{0x0102030405060708, []byte{0x88, 0x8e, 0x98, 0xa8, 0xc0, 0xe0, 0x80, 0x81, 0x01}},
	}
}

// wrongCase is bytes that no packed number begins with, and what is answered.
type wrongCase struct {
	name string
	b    []byte
	e    api.Errno
}

// wrongPacked are all the ways in which a packed number may be wrong.
func wrongPacked() []wrongCase {
	l := []wrongCase{{"nothing", nil, api.ErrShort}}
	for n := 1; n <= 9; n++ {
		going := bytes.Repeat([]byte{0x80}, n)
		full := bytes.Repeat([]byte{0xff}, n)
		l = append(l,
			wrongCase{"ends within, 80", going, api.ErrShort},
			wrongCase{"ends within, ff", full, api.ErrShort},
			wrongCase{"zero by more bytes", append(slices.Clone(going), 0), api.ErrForm},
			wrongCase{"more bytes than needed", append(slices.Clone(full), 0), api.ErrForm},
			wrongCase{"more bytes than needed, more behind", append(slices.Clone(full), 0, 1, 2), api.ErrForm})
	}
	nine := bytes.Repeat([]byte{0xff}, 9)
	for _, tenth := range []byte{2, 3, 0x40, 0x7f, 0x80, 0x81, 0x82, 0xff} {
		l = append(l,
			wrongCase{"the tenth above 1", append(slices.Clone(nine), tenth), api.ErrForm},
			wrongCase{"the tenth above 1, more behind", append(slices.Clone(nine), tenth, 0, 0), api.ErrForm},
			wrongCase{"the tenth above 1, one behind", append(slices.Clone(nine), tenth, 1), api.ErrForm})
	}
	return l
}

// at checks where a reader of n bytes is.
func at(t *testing.T, what string, r *nums.Reader, at, n int) {
	t.Helper()
	if r.At() != at || r.Left() != n-at {
		t.Errorf("%s: At %d, Left %d; want %d, %d", what, r.At(), r.Left(), at, n-at)
	}
}

// random is a row of numbers that looks like chance and is always the same.
func random() func() uint64 {
	s := uint64(0x9e3779b97f4a7c15)
	return func() uint64 {
		s ^= s << 13
		s ^= s >> 7
		s ^= s << 17
		return s
	}
}
