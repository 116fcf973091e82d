package samples_test

import (
	"bytes"
	"math/rand/v2"
	"slices"
	"testing"

	"consistory/samples"
)

// A table has as many seals as are asked for, no two alike, some shorter than a block of 64 bytes, some longer; a smaller one begins the greater.
func TestTable(t *testing.T) {
	all := samples.Table(rand.New(rand.NewPCG(1, 2)), 20)
	seen, lengths := map[string]bool{}, map[int]bool{}
	for _, seal := range all.Seals {
		seen[string(seal)], lengths[len(seal)] = true, true
	}
	if len(all.Seals) != 20 || len(seen) != 20 || len(all.Roots) != 2 || all.Roots[0] == all.Roots[1] {
		t.Errorf("%d seals, %d of them unlike, and the roots %x", len(all.Seals), len(seen), all.Roots)
	}
	for _, n := range []int{1, 32, 63, 64, 65, 300} {
		if !lengths[n] {
			t.Errorf("no seal has %d bytes: %v", n, lengths)
		}
	}
	for n := range 20 {
		k := samples.Table(rand.New(rand.NewPCG(1, 2)), n)
		if !slices.EqualFunc(k.Seals, all.Seals[:n], bytes.Equal) || !slices.Equal(k.Roots, all.Roots) {
			t.Errorf("%d seals are others", n)
		}
	}
}
