package views_test

import (
	"math"
	"math/rand/v2"
	"testing"

	"consistory/api"
	"consistory/samples"
	"consistory/views"
)

const masks = 1 << 16 // masks there are

// fits tells whether so many members may make a view.
func fits(mask int) bool {
	return samples.SharesOf(len(samples.Members(uint16(mask)))) != samples.Shares{}
}

// numbers are numbers of views, those at the ends of what is right and beyond among them.
func numbers() []int {
	return append(samples.Numbers(), 3, 4, 30, 59, 60, 61, 62, 65535, 65536+5, 1<<32+5)
}

// right tells whether a view may have that number.
func right(num int) bool {
	return num >= 0 && num <= 60
}

// wrongViews are views that aren't right: by the number, the mask, or both.
func wrongViews() []api.View {
	var l []api.View
	for _, num := range numbers() {
		for _, mask := range samples.WrongMasks() {
			l = append(l, api.View{Num: num, Mask: mask})
		}
		if !right(num) {
			for _, mask := range samples.RightMasks() {
				l = append(l, api.View{Num: num, Mask: mask})
			}
		}
	}
	return l
}

// rightViews are views of each number that there may be.
func rightViews() []api.View {
	var l []api.View
	for num := range 61 {
		for _, mask := range samples.RightMasks() {
			l = append(l, api.View{Num: num, Mask: mask})
		}
	}
	return l
}

// told are all the shares that v's calls tell.
func told(v api.View) samples.Shares {
	return samples.Shares{Faults: views.Faults(v), Quorum: views.Quorum(v), Enough: views.Enough(v), Some: views.Some(v)}
}

// refusedNext checks that there is no such next view, and beside the error nothing.
func refusedNext(t *testing.T, v api.View, mask int64) {
	t.Helper()
	if w, e := views.Next(v, mask); w != (api.View{}) || e != api.ErrRange {
		t.Errorf("behind %v with %d: %v, %v", v, mask, w, e)
	}
}

// refusedGet checks that b tells no view, but the error e.
func refusedGet(t *testing.T, b []byte, e api.Errno) {
	t.Helper()
	if v, got := views.Get(b); v != (api.View{}) || got != e {
		t.Errorf("%x: %v, %v; want %v", b, v, got, e)
	}
}

// farMasks are numbers that no mask has, also such of which the lowest bits would make a view.
func farMasks() []int64 {
	l := []int64{-1, -2, -65536, -65536 + 15, -1 << 32, math.MinInt64, math.MinInt64 + 15, math.MaxInt64}
	for _, high := range []int64{1 << 16, 1 << 17, 1 << 31, 1 << 32, 1 << 48, 1 << 62} {
		l = append(l, high, high+15, high+0xf000, high+0x8015)
	}
	return l
}

// chance is a source of numbers that is always the same.
func chance() *rand.Rand {
	return rand.New(rand.NewPCG(6, 16))
}
