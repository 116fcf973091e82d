package samples

import (
	"bytes"
	"slices"

	"consistory/api"
)

// Test is a test that runs, as far as checks need it.
type Test interface {
	Helper()
	Errorf(format string, args ...any)
}

// Told checks the errors that calls answered, in their order.
func Told(t Test, what string, want api.Errno, got ...api.Errno) {
	t.Helper()
	for i, e := range got {
		if e != want {
			t.Errorf("%s: call %d tells %v; want %v", what, i, e, want)
		}
	}
}

// Holds checks that the files of d are those, in any order, each name with its bytes
// behind it.
func Holds(t Test, what string, d Disk, pairs ...string) {
	t.Helper()
	var names []string
	for p := range slices.Chunk(pairs, 2) {
		names = append(names, p[0])
		if b, e := d.Read(p[0]); e != api.OK || string(b) != p[1] {
			t.Errorf("%s: %q is %.2000q, %v; want %.2000q", what, p[0], b, e, p[1])
		}
	}
	slices.Sort(names)
	if l := d.Names(); !slices.Equal(l, names) {
		t.Errorf("%s: there are %q; want %q", what, l, names)
	}
}

// Leaves checks that get changes none of the bytes that it reads, spare room included,
// and that what is behind them tells it nothing.
func Leaves[V any](t Test, get func(b []byte) (V, api.Errno), same func(v, w V) bool, lists ...[]byte) {
	t.Helper()
	for _, b := range lists {
		whole, view := Roomy(b)
		before := slices.Clone(whole)
		v, e := get(view)
		if !bytes.Equal(whole, before) {
			t.Errorf("%d bytes are changed", len(b))
		}
		if w, f := get(b); e != f || !same(v, w) {
			t.Errorf("%d bytes tell something else with room behind: %v, %v", len(b), e, f)
		}
	}
}
