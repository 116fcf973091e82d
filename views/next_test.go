package views_test

import (
	"testing"

	"consistory/api"
	"consistory/samples"
	"consistory/views"
)

// P6.3: behind a view comes the one with the next number, and each mask that may be.
func TestNext(t *testing.T) {
	for num := range 60 {
		for _, mask := range samples.RightMasks() {
			for _, to := range samples.RightMasks() {
				v, want := api.View{Num: num, Mask: mask}, api.View{Num: num + 1, Mask: to}
				if got, e := views.Next(v, int64(to)); got != want || e != api.OK {
					t.Fatalf("behind %v with %x: %v, %v", v, to, got, e)
				}
			}
		}
	}
}

// P6.3: of all masks from 0 to 65535 those with 4 to 7 members make one.
func TestNextOfEachMask(t *testing.T) {
	v := api.View{Num: 3, Mask: 0x8015}
	for mask := range masks {
		if !fits(mask) {
			refusedNext(t, v, int64(mask))
			continue
		}
		if got, e := views.Next(v, int64(mask)); got != (api.View{Num: 4, Mask: uint16(mask)}) || e != api.OK {
			t.Fatalf("with %x: %v, %v", mask, got, e)
		}
	}
}

// P6.3: a mask beyond 0 to 65535 makes none, also where its lowest bits would.
func TestNextOfFarMasks(t *testing.T) {
	for _, v := range []api.View{{Mask: 15}, {Num: 59, Mask: 0xfe00}, {Num: 60, Mask: 15}, {}} {
		for _, mask := range farMasks() {
			refusedNext(t, v, mask)
		}
	}
}

// P6.3: behind the view 60 there is none, nor behind one that isn't right.
func TestNextOfOtherViews(t *testing.T) {
	for _, mask := range samples.RightMasks() {
		for _, to := range samples.RightMasks() {
			refusedNext(t, api.View{Num: 60, Mask: mask}, int64(to))
		}
	}
	for _, v := range wrongViews() {
		for _, mask := range []int64{15, 0x8015, 127, 0, 7, 255} {
			refusedNext(t, v, mask)
		}
	}
	// The number and one would be right.
	refusedNext(t, api.View{Num: -1, Mask: 15}, 15)
}

// P6.3: step by step it goes on to the view 60, and no further.
func TestNextInTurn(t *testing.T) {
	v := api.View{Mask: 15}
	for i := range 60 {
		mask := samples.RightMasks()[i%len(samples.RightMasks())]
		w, e := views.Next(v, int64(mask))
		if e != api.OK || w != (api.View{Num: i + 1, Mask: mask}) || !views.Right(w) {
			t.Fatalf("behind %v with %x: %v, %v", v, mask, w, e)
		}
		v = w
	}
	refusedNext(t, v, 15)
}
