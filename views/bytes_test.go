package views_test

import (
	"bytes"
	"encoding/binary"
	"testing"

	"consistory/api"
	"consistory/samples"
	"consistory/views"
)

// bytesOf are four bytes that tell the number and the mask, right or not.
func bytesOf(num, mask uint16) []byte {
	b := binary.BigEndian.AppendUint16(nil, num)
	return binary.BigEndian.AppendUint16(b, mask)
}

// P6.2: bytes written out by hand.
func TestPutKnown(t *testing.T) {
	for v, want := range map[api.View][]byte{
		{Num: 0, Mask: 15}:      {0, 0, 0, 15},
		{Num: 3, Mask: 0x8015}:  {0, 3, 0x80, 0x15},
		{Num: 60, Mask: 0xf000}: {0, 60, 0xf0, 0},
		{Num: 1, Mask: 0x0ef0}:  {0, 1, 0x0e, 0xf0},
	} {
		if got := views.Put(v); !bytes.Equal(got, want) {
			t.Errorf("%v: %x; want %x", v, got, want)
		}
	}
}

// P6.2: each view that is right is put, and got back: of each mask, and of each number.
func TestGetOfPut(t *testing.T) {
	var l []api.View
	for mask := range masks {
		if fits(mask) {
			l = append(l, api.View{Num: mask % 61, Mask: uint16(mask)})
		}
	}
	for _, v := range append(l, rightViews()...) {
		b := views.Put(v)
		if !bytes.Equal(b, bytesOf(uint16(v.Num), v.Mask)) {
			t.Fatalf("%v: %x", v, b)
		}
		if w, e := views.Get(b); w != v || e != api.OK {
			t.Fatalf("%x: %v, %v; want %v", b, w, e, v)
		}
	}
}

// P6.2: one that isn't right has no bytes.
func TestPutOfWrongViews(t *testing.T) {
	for _, v := range wrongViews() {
		if b := views.Put(v); len(b) != 0 {
			t.Errorf("%v: %x", v, b)
		}
	}
}

// P6.2: four bytes that tell what isn't right are none: of each mask, and of each number.
func TestGetOfWrongViews(t *testing.T) {
	for mask := range masks {
		if !fits(mask) {
			refusedGet(t, bytesOf(uint16(mask%61), uint16(mask)), api.ErrForm)
		}
	}
	for num := 61; num < masks; num++ {
		for _, mask := range []uint16{15, 0x8015, 0, 0xffff} {
			refusedGet(t, bytesOf(uint16(num), mask), api.ErrForm)
		}
	}
}

// P6.2: fewer than four bytes are too short, whatever they are; more are too many, whatever the first four are.
func TestGetLength(t *testing.T) {
	refusedGet(t, nil, api.ErrShort)
	refusedGet(t, []byte{}, api.ErrShort)
	r := chance()
	for _, whole := range [][]byte{{0, 3, 0x80, 0x15}, {0, 0, 0, 15}, {0, 61, 0, 15}, {0, 3, 0, 7}, {0xff, 0xff, 0xff, 0xff}, {0, 0, 0, 0}} {
		for n := range 4 {
			refusedGet(t, whole[:n], api.ErrShort)
			refusedGet(t, whole[4-n:], api.ErrShort)
		}
		for _, n := range []int{1, 2, 3, 4, 5, 8, api.MaxText} {
			refusedGet(t, append(bytes.Clone(whole), samples.Text(r, n)...), api.ErrForm)
			refusedGet(t, append(bytes.Clone(whole), make([]byte, n)...), api.ErrForm)
		}
		refusedGet(t, append(bytes.Clone(whole), whole...), api.ErrForm)
	}
}

// P6.2: what is got from any four bytes has just these bytes.
func TestPutOfGet(t *testing.T) {
	r := chance()
	got := 0
	for range 20000 {
		b := bytesOf(uint16(r.IntN(70)), uint16(r.IntN(masks)))
		v, e := views.Get(b)
		if e == api.OK {
			got++
			if !views.Right(v) || !bytes.Equal(views.Put(v), b) {
				t.Errorf("%x: %v, of which the bytes are %x", b, v, views.Put(v))
			}
		}
	}
	if got == 0 {
		t.Error("no view was got")
	}
}
