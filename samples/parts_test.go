package samples_test

import (
	"math"
	"math/rand/v2"
	"slices"
	"testing"

	"consistory/api"
	"consistory/samples"
	"consistory/seals"
)

// Each part that isn't opened has the very error that it is told with, each that layer 9 has is there, and no two parts share memory.
func TestUnopened(t *testing.T) {
	k := samples.Table(rand.New(rand.NewPCG(1, 2)), 16)
	for _, m := range []api.Msg{{Kind: api.MWrite, View: 7, Reg: 2, Slot: 50, Hash: api.Hash{9}}, {Kind: api.MStop}, {Kind: api.MReq, View: 60, Reg: 40, Slot: 60}} {
		seen := map[api.Errno]int{}
		var parts [][]byte
		for i, r := range samples.Unopened(seals.Seal, k, m) {
			got, e := seals.OpenOf(k, api.View{Mask: 15}, r.Part)
			if seen[e]++; e != r.Want || !samples.SameMsg(got, api.Msg{}) {
				t.Errorf("part %d, of %d bytes, opens: %v; want %v", i, len(r.Part), e, r.Want)
			}
			parts = append(parts, r.Part)
		}
		for _, e := range []api.Errno{api.ErrShort, api.ErrForm, api.ErrRange, api.ErrFull, api.ErrArg, api.ErrTag, api.ErrWho} {
			if seen[e] == 0 {
				t.Errorf("none is refused by %v", e)
			}
		}
		if len(seen) != 7 || !samples.Apart(parts) {
			t.Errorf("%v, or parts share memory", seen)
		}
	}
}

// picky takes what has one byte.
type picky struct{}

func (picky) Take(part []byte) api.Errno {
	if len(part) != 1 {
		return api.ErrShort
	}
	return api.OK
}

// Each part that is answered otherwise is told, by its place.
func TestTakes(t *testing.T) {
	one, two := []byte{1}, []byte{1, 2}
	for _, c := range []struct {
		want  api.Errno
		parts [][]byte
		notes notes
	}{
		{api.OK, nil, nil},
		{api.OK, [][]byte{one, one}, nil},
		{api.ErrShort, [][]byte{two, nil}, nil},
		{api.OK, [][]byte{one, two}, notes{"what: part 1, of 2 bytes: consistory: 1; want consistory: 0"}},
		{api.ErrShort, [][]byte{one, two, one}, notes{"what: part 0, of 1 bytes: consistory: 0; want consistory: 1", "what: part 2, of 1 bytes: consistory: 0; want consistory: 1"}},
	} {
		var n notes
		if samples.Takes(&n, "what", picky{}, c.want, c.parts...); !slices.Equal(n, c.notes) {
			t.Errorf("%v: %q; want %q", c.parts, n, c.notes)
		}
	}
}

// Each set of a list chooses others, in their order.
func TestChosen(t *testing.T) {
	l := []string{"a", "b", "c"}
	for set, want := range [][]string{nil, {"a"}, {"b"}, {"a", "b"}, {"c"}, {"a", "c"}, {"b", "c"}, l, nil} {
		if got := samples.Chosen(l, set); !slices.Equal(got, want) {
			t.Errorf("of %b there are %q; want %q", set, got, want)
		}
	}
}

// None of the far ones is the number, some are next to it, at the ends, or alike by their lowest bits.
func TestFar(t *testing.T) {
	for _, x := range append(samples.Numbers(), 7, 40, 60) {
		l := samples.Far(x)
		alike := 0
		for _, n := range l {
			if n == x {
				t.Errorf("%d is far from itself", x)
			}
			if byte(n) == byte(x) {
				alike++
			}
		}
		if !slices.Contains(l, x-1) || !slices.Contains(l, x+1) || alike < 6 {
			t.Errorf("of %d there are %v", x, l)
		}
		if x != math.MaxInt && !slices.Contains(l, math.MaxInt) || x != math.MinInt && !slices.Contains(l, math.MinInt) {
			t.Errorf("of %d no ends are in %v", x, l)
		}
	}
}
