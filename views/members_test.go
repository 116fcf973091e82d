package views_test

import (
	"math"
	"slices"
	"testing"

	"consistory/api"
	"consistory/samples"
	"consistory/views"
)

// P6.1: of each mask, whatever the number: whether it is right, its members, rising, and who is one.
func TestMembers(t *testing.T) {
	for mask := range masks {
		want := samples.Members(uint16(mask))
		for _, num := range []int{0, 7, 60, 61, -1, math.MinInt} {
			v := api.View{Num: num, Mask: uint16(mask)}
			if views.Right(v) != (right(num) && fits(mask)) {
				t.Fatalf("%v is right: %v", v, views.Right(v))
			}
			if got := views.Members(v); !slices.Equal(got, want) {
				t.Fatalf("%v has %v; want %v", v, got, want)
			}
			for i := -2; i < 19; i++ {
				if views.Has(v, i) != slices.Contains(want, i) {
					t.Fatalf("%v has %d: %v", v, i, views.Has(v, i))
				}
			}
		}
	}
}

// P6.1: masks written out by hand.
func TestMembersKnown(t *testing.T) {
	for mask, want := range map[uint16][]int{
		0:      nil,
		1:      {0},
		0x8000: {15},
		15:     {0, 1, 2, 3},
		0xf000: {12, 13, 14, 15},
		0x8015: {0, 2, 4, 15},
		0x0180: {7, 8},
		0xffff: {0, 1, 2, 3, 4, 5, 6, 7, 8, 9, 10, 11, 12, 13, 14, 15},
	} {
		if got := views.Members(api.View{Mask: mask}); !slices.Equal(got, want) {
			t.Errorf("%x: %v; want %v", mask, got, want)
		}
	}
}

// P6.1: the numbers at the ends of what is right, and far beyond; with 4 to 7 members.
func TestRight(t *testing.T) {
	for _, num := range numbers() {
		for _, mask := range samples.RightMasks() {
			if v := (api.View{Num: num, Mask: mask}); views.Right(v) != right(num) {
				t.Errorf("%v is right: %v", v, views.Right(v))
			}
		}
		for _, mask := range samples.WrongMasks() {
			if v := (api.View{Num: num, Mask: mask}); views.Right(v) {
				t.Errorf("%v is right", v)
			}
		}
	}
	if views.Right(api.View{}) {
		t.Error("the zero view is right")
	}
}

// P6.1: no number far from 0 to 15 is a member, also where its lowest bits are one.
func TestHasFar(t *testing.T) {
	for _, mask := range []uint16{0, 15, 0x8015, 0xffff} {
		for _, i := range append(samples.Numbers(), -15, -16, 16, 17, 31, 32, 63, 64, 65, 1<<32+1, math.MinInt+1) {
			want := i >= 0 && i <= 15 && slices.Contains(samples.Members(mask), i)
			if v := (api.View{Mask: mask}); views.Has(v, i) != want {
				t.Errorf("%x has %d: %v", mask, i, !want)
			}
		}
	}
}

// P6.1: faults, a quorum, enough and some hang on how many members there are alone.
func TestShares(t *testing.T) {
	for mask := range masks {
		v := api.View{Num: mask % 61, Mask: uint16(mask)}
		if got, want := told(v), samples.SharesOf(len(samples.Members(uint16(mask)))); got != want {
			t.Fatalf("of %v: %v; want %v", v, got, want)
		}
	}
}

// P6.1: of a view that isn't right they are 0, also where just the number isn't.
func TestSharesOfWrongViews(t *testing.T) {
	for _, v := range wrongViews() {
		if got := told(v); got != (samples.Shares{}) {
			t.Errorf("of %v: %v", v, got)
		}
	}
}

// P6.1: regency by regency each member leads in its turn, rising, and again.
func TestLeader(t *testing.T) {
	for _, v := range rightViews() {
		members := samples.Members(v.Mask)
		turn := 0
		for r := range 50 {
			if got := views.Leader(v, r); got != members[turn] {
				t.Fatalf("of %v, regency %d: %d; want %d", v, r, got, members[turn])
			}
			turn++
			if turn == len(members) {
				turn = 0
			}
		}
	}
}

// P6.1: great regencies have leaders too.
func TestLeaderKnown(t *testing.T) {
	for _, c := range []struct {
		mask uint16
		r    int
		want int
	}{
		{15, 0, 0}, {15, 3, 3}, {15, 4, 0}, {15, 5, 1}, {15, 40, 0}, {15, math.MaxInt, 3}, {15, math.MaxInt - 1, 2},
		{0xf000, 0, 12}, {0xf000, 7, 15}, {0x8015, 2, 4}, {0x8015, 7, 15},
		{31, 1<<32 + 1, 2}, {63, 1<<32 + 1, 5}, {127, math.MaxInt, 0}, {127, 1 << 32, 4},
	} {
		if got := views.Leader(api.View{Num: 2, Mask: c.mask}, c.r); got != c.want {
			t.Errorf("of %x, regency %d: %d; want %d", c.mask, c.r, got, c.want)
		}
	}
}

// P6.1: nobody leads a regency below 0, nor a view that isn't right.
func TestNoLeader(t *testing.T) {
	for _, v := range rightViews() {
		for _, r := range []int{-1, -2, -4, -5, -7, math.MinInt, math.MinInt + 1} {
			if got := views.Leader(v, r); got != -1 {
				t.Errorf("of %v, regency %d: %d", v, r, got)
			}
		}
	}
	for _, v := range wrongViews() {
		for _, r := range []int{0, 1, 5, 40, math.MaxInt, -1, math.MinInt} {
			if got := views.Leader(v, r); got != -1 {
				t.Errorf("of %v, regency %d: %d", v, r, got)
			}
		}
	}
}
