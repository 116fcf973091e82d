package samples_test

import (
	"math/bits"
	"testing"

	"consistory/api"
	"consistory/samples"
)

// No op is there twice, neither in one list nor in that of what is right and that of what isn't, and each list is new.
func TestOps(t *testing.T) {
	seen := map[api.Op]bool{samples.OpOf(1): true}
	kinds := map[int]bool{}
	for _, op := range append(samples.RightOps(), samples.WrongOps()...) {
		if seen[op] {
			t.Errorf("%v is there twice", op)
		}
		seen[op] = true
	}
	for _, op := range samples.RightOps() {
		kinds[op.Kind] = true
	}
	if len(kinds) != 5 || kinds[api.KView] {
		t.Errorf("there are the kinds %v", kinds)
	}
	seen = map[api.Op]bool{samples.OpOf(0): true}
	for _, op := range samples.WrongAdminOps() {
		if seen[op] {
			t.Errorf("the administrator's %v is there twice, or right", op)
		}
		seen[op] = true
	}
	for _, list := range []func() []api.Op{samples.RightOps, samples.WrongOps, samples.WrongAdminOps} {
		first := list()[0]
		clear(list())
		list()[0].A++
		if list()[0] != first {
			t.Error("a list isn't new")
		}
	}
}

// Each mask is there once, and is of as many members as it should be, no more and no less.
func TestMasks(t *testing.T) {
	seen := map[uint16]bool{}
	members := map[int]bool{}
	for _, mask := range append(samples.RightMasks(), samples.WrongMasks()...) {
		if seen[mask] {
			t.Errorf("%b is there twice", mask)
		}
		seen[mask] = true
	}
	for _, mask := range samples.RightMasks() {
		n := bits.OnesCount16(mask)
		if n < 4 || n > 7 {
			t.Errorf("%b has %d members", mask, n)
		}
		members[n] = true
	}
	for _, mask := range samples.WrongMasks() {
		n := bits.OnesCount16(mask)
		if n >= 4 && n <= 7 {
			t.Errorf("%b has %d members", mask, n)
		}
		members[n] = true
	}
	for _, n := range []int{0, 1, 2, 3, 4, 5, 6, 7, 8, 15, 16} {
		if !members[n] {
			t.Errorf("no mask has %d members", n)
		}
	}
}
