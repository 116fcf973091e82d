package samples_test

import (
	"fmt"
	"slices"
	"testing"

	"consistory/api"
	"consistory/samples"
)

// notes is a test that only notes what went wrong.
type notes []string

func (n *notes) Helper() {}

func (n *notes) Errorf(format string, args ...any) {
	*n = append(*n, fmt.Sprintf(format, args...))
}

// Each error that is another than was wanted is told, by the call's number.
func TestTold(t *testing.T) {
	for _, c := range []struct {
		got  []api.Errno
		want notes
	}{
		{nil, nil},
		{[]api.Errno{api.ErrFull, api.ErrFull}, nil},
		{[]api.Errno{api.OK}, notes{"what: call 0 tells consistory: 0; want consistory: 4"}},
		{[]api.Errno{api.ErrForm, api.ErrFull, api.ErrWho}, notes{"what: call 0 tells consistory: 2; want consistory: 4", "what: call 2 tells consistory: 6; want consistory: 4"}},
	} {
		var n notes
		if samples.Told(&n, "what", api.ErrFull, c.got...); !slices.Equal(n, c.want) {
			t.Errorf("%v: %q; want %q", c.got, n, c.want)
		}
	}
}

// Files that are others, that miss, that can't be read or that are too many are told; in which order they are named doesn't matter.
func TestHolds(t *testing.T) {
	d := shelf{"a": "one", "b": ""}
	for _, c := range []struct {
		d     shelf
		pairs []string
		wrong int
	}{
		{d, []string{"a", "one", "b", ""}, 0},
		{d, []string{"b", "", "a", "one"}, 0},
		{shelf{}, nil, 0},
		{d, []string{"a", "two", "b", ""}, 1},
		{d, []string{"a", "one", "b", "one"}, 1},
		{d, []string{"a", "one"}, 1},
		{d, nil, 1},
		{d, []string{"a", "one", "b", "", "c", ""}, 1},
		{shelf{"lost": ""}, []string{"lost", ""}, 1},
	} {
		var n notes
		if samples.Holds(&n, "what", c.d, c.pairs...); len(n) != c.wrong {
			t.Errorf("%v of %v: %q", c.pairs, c.d, n)
		}
	}
}

// Who writes into what it reads, or behind it, and who reads what is behind it, is told.
func TestLeaves(t *testing.T) {
	same := func(v, w int) bool { return v == w }
	lists := [][]byte{nil, {1}, {1, 2, 3}}
	for _, c := range []struct {
		get   func(b []byte) (int, api.Errno)
		wrong int
	}{
		{func(b []byte) (int, api.Errno) { return len(b), api.ErrForm }, 0},
		{func(b []byte) (int, api.Errno) { return cap(b), api.OK }, 3},
		{func(b []byte) (int, api.Errno) { return 0, api.Errno(cap(b)) }, 3},
		{func(b []byte) (int, api.Errno) { clear(b); return 0, api.OK }, 2},
		{func(b []byte) (int, api.Errno) { _ = append(b, 7); return 0, api.OK }, 3},
	} {
		var n notes
		if samples.Leaves(&n, c.get, same, lists...); len(n) != c.wrong {
			t.Errorf("%q; want %d", n, c.wrong)
		}
	}
}
