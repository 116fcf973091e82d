package samples_test

import (
	"math/bits"
	"slices"
	"testing"

	"consistory/samples"
)

// There are as many members as a mask has bits; they rise, and their bits make the mask.
func TestMembers(t *testing.T) {
	for mask := range 1 << 16 {
		l := samples.Members(uint16(mask))
		sum := 0
		for _, i := range l {
			sum += 1 << i
		}
		if sum != mask || len(l) != bits.OnesCount(uint(mask)) || !slices.IsSorted(l) {
			t.Fatalf("of %b there are %v", mask, l)
		}
	}
}

// A view has from four to seven members: others have no shares; two quorums share more than the faults, and one of some isn't at fault.
func TestSharesOf(t *testing.T) {
	for n := -1; n <= 17; n++ {
		s := samples.SharesOf(n)
		if n < 4 || n > 7 {
			if s != (samples.Shares{}) {
				t.Errorf("of %d there are %v", n, s)
			}
			continue
		}
		if 2*s.Quorum-n <= s.Faults || s.Some != s.Faults+1 || s.Enough != n-s.Faults || s.Faults < 1 {
			t.Errorf("of %d there are %v", n, s)
		}
	}
}
