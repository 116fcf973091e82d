package views_test

import (
	"math/bits"
	"testing"

	"consistory/api"
	"consistory/samples"
	"consistory/views"
)

// setsOf are all sets of n of the view's members, a bit each.
func setsOf(v api.View, n int) []uint16 {
	var l []uint16
	for set := range masks {
		within := uint16(set)&^v.Mask == 0
		if within && bits.OnesCount16(uint16(set)) == n {
			l = append(l, uint16(set))
		}
	}
	return l
}

// shareMore checks that each of one kind of sets shares more than f members with each of another kind.
func shareMore(t *testing.T, what string, one, other []uint16, f int) {
	t.Helper()
	if len(one) == 0 || len(other) == 0 {
		t.Errorf("%s: there are no such sets", what)
	}
	for _, a := range one {
		for _, b := range other {
			if bits.OnesCount16(a&b) <= f {
				t.Errorf("%s: %b and %b share no more than %d", what, a, b, f)
			}
		}
	}
}

// P6.4: two quorums share more than f members, and so do a quorum and enough: set by set.
func TestQuorumsShare(t *testing.T) {
	for _, mask := range samples.RightMasks() {
		v := api.View{Num: 5, Mask: mask}
		quorums, f := setsOf(v, views.Quorum(v)), views.Faults(v)
		shareMore(t, "two quorums", quorums, quorums, f)
		shareMore(t, "a quorum and enough", quorums, setsOf(v, views.Enough(v)), f)
	}
}

// P6.4: of each view that is right enough are at least a quorum, both are no more than the members, and some are more than may be bad.
func TestSharesFit(t *testing.T) {
	for mask := range masks {
		v := api.View{Num: mask % 61, Mask: uint16(mask)}
		if !views.Right(v) {
			continue
		}
		n, s := len(views.Members(v)), told(v)
		if s.Enough < s.Quorum || s.Enough > n || s.Some != s.Faults+1 || 2*s.Quorum-n <= s.Faults || s.Quorum+s.Enough-n <= s.Faults {
			t.Fatalf("of %v: %v", v, s)
		}
	}
}
