package votes_test

import (
	"math"
	"slices"
	"testing"

	"consistory/api"
	"consistory/samples"
	"consistory/votes"
)

// none checks that nothing was written in those regencies.
func none(t *testing.T, what string, k *votes.Book, regencies ...[2]int) {
	t.Helper()
	for _, in := range regencies {
		if v, is := k.Wrote(in[0], in[1]); is || !same(v, api.Vote{}) {
			t.Errorf("%s: in %v there was written %v, %v", what, in, brief(v), is)
		}
	}
}

// P13.2: a new book is empty.
func TestNew(t *testing.T) {
	k := votes.New()
	if k == nil {
		t.Fatal("it is nil")
	}
	view, reg := k.Reg()
	v, is := k.Accepted()
	if view != 0 || reg != 0 || k.Slot() != 0 || is || !same(v, api.Vote{}) || len(k.All()) != 0 {
		t.Errorf("%d, %d, %d, %v, %v, %v", view, reg, k.Slot(), brief(v), is, briefs(k.All()))
	}
	for _, x := range samples.Numbers() {
		none(t, "new", k, [2]int{x, 0}, [2]int{0, x}, [2]int{x, x})
	}
}

// P13.2: the regency entered has the greatest view, and in it the greatest number, whatever came behind it. This is the chapter's example, and more of it.
func TestReg(t *testing.T) {
	k := votes.New()
	for _, c := range []struct{ view, reg, wantView, wantReg int }{
		{0, 0, 0, 0}, {1, 2, 1, 2}, {1, 1, 1, 2}, {0, 40, 1, 2}, {1, 3, 1, 3}, {2, 0, 2, 0}, {1, 40, 2, 0}, {2, 10, 2, 10}, {2, 9, 2, 10}, {10, 1, 10, 1}, {9, 40, 10, 1}, {60, 40, 60, 40}, {60, 39, 60, 40}, {59, 40, 60, 40},
	} {
		e := k.Take(entered(c.view, c.reg))
		if view, reg := k.Reg(); e != api.OK || view != c.wantView || reg != c.wantReg {
			t.Errorf("behind %d, %d: %d, %d, %v", c.view, c.reg, view, reg, e)
		}
		if l := k.All(); len(l) != 1 || !same(l[0], entered(c.wantView, c.wantReg)) {
			t.Errorf("behind %d, %d: %v", c.view, c.reg, briefs(l))
		}
	}
}

// P13.3: that a regency was entered is among all, of the view and the number 0 too, and then just once.
func TestRegOfNought(t *testing.T) {
	k := bookOf(t, entered(0, 0), entered(0, 0))
	if l := k.All(); len(l) != 1 || !same(l[0], entered(0, 0)) {
		t.Error(briefs(l))
	}
}

// P13.2: entered regencies, and what was written and accepted, know nothing of each other.
func TestRegApart(t *testing.T) {
	l := []api.Vote{entered(2, 3), wrote(0, 1, 5, 1), accepted(0, 1, 5, 2)}
	for _, order := range samples.Orders(l) {
		tells(t, "in any order", bookOf(t, order...), l)
	}
	k := bookOf(t, wrote(1, 2, 5, 1), accepted(1, 2, 5, 2))
	if view, reg := k.Reg(); view != 0 || reg != 0 || len(k.All()) != 2 {
		t.Errorf("a regency that wasn't entered: %d, %d", view, reg)
	}
	k = bookOf(t, entered(1, 2))
	if k.Slot() != 0 || len(k.All()) != 1 {
		t.Error("a slot of which there is no vote:", k.Slot())
	}
	k = bookOf(t, wrote(1, 2, 5, 1), entered(60, 40))
	tells(t, "an entered regency is of no slot", k, model{wrote(1, 2, 5, 1), entered(60, 40)})
}

// P13.2: what was written is kept of each view and regency, the first that came.
func TestWrote(t *testing.T) {
	k := bookOf(t, wrote(1, 2, 5, 1), wrote(2, 1, 5, 2), wrote(1, 2, 5, 3), wrote(0, 0, 5, 4), wrote(60, 40, 5, 5), wrote(2, 1, 5, 6))
	for _, want := range []api.Vote{wrote(1, 2, 5, 1), wrote(2, 1, 5, 2), wrote(0, 0, 5, 4), wrote(60, 40, 5, 5)} {
		if v, is := k.Wrote(want.View, want.Reg); !is || !same(v, want) {
			t.Errorf("%v, %v; want %v", brief(v), is, brief(want))
		}
	}
	none(t, "another regency", k, [2]int{1, 1}, [2]int{2, 2}, [2]int{0, 1}, [2]int{1, 0}, [2]int{40, 60}, [2]int{60, 41}, [2]int{61, 40}, [2]int{-1, 0}, [2]int{0, -1}, [2]int{256 + 1, 2}, [2]int{1, 1<<32 + 2}, [2]int{1, 1<<16 + 2}, [2]int{1<<16 + 1, 2}, [2]int{math.MinInt, math.MaxInt})
	if v, is := k.Accepted(); is {
		t.Error("what was written is accepted:", brief(v))
	}
}

// P13.2: of what was accepted that of the greatest view is kept, in it of the greatest regency, of several of one the first that came: in whatever order they come.
func TestAccepted(t *testing.T) {
	for _, c := range [][]api.Vote{
		{accepted(0, 0, 5, 1), accepted(0, 1, 5, 2), accepted(1, 0, 5, 3), accepted(1, 1, 5, 4)},
		{accepted(1, 40, 5, 1), accepted(2, 0, 5, 2), accepted(0, 40, 5, 3), accepted(2, 0, 5, 4)},
		{accepted(9, 10, 5, 1), accepted(10, 9, 5, 2), accepted(10, 2, 5, 3), accepted(2, 10, 5, 4)},
		{accepted(3, 3, 0, 1), accepted(3, 3, 0, 2), accepted(3, 3, 0, 3), wrote(4, 4, 0, 4)},
		{accepted(60, 40, 60, 1), accepted(60, 39, 60, 2), accepted(59, 40, 60, 3), accepted(60, 40, 60, 4)},
	} {
		for _, order := range samples.Orders(c) {
			k := bookOf(t, order...)
			tells(t, "in any order", k, order)
			if _, is := k.Accepted(); !is {
				t.Error("nothing is accepted")
			}
		}
	}
	k := bookOf(t, accepted(1, 2, 5, 1), accepted(1, 3, 5, 2), accepted(1, 3, 5, 3), accepted(1, 2, 5, 4))
	if v, is := k.Accepted(); !is || !same(v, accepted(1, 3, 5, 2)) {
		t.Error(brief(v), is)
	}
	none(t, "what was accepted is not written", k, [2]int{1, 2}, [2]int{1, 3})
}

// P13.2: a vote of a lesser slot is too old, of whatever regency; one of a greater slot ends what was kept of the lesser.
func TestSlots(t *testing.T) {
	type taking = func(view, reg, slot int, mark byte) api.Vote
	for _, first := range []taking{wrote, accepted} {
		for _, second := range []taking{wrote, accepted} {
			k := bookOf(t, wrote(3, 3, 4, 9), accepted(3, 3, 4, 9), first(1, 2, 5, 1), entered(1, 1))
			m := model{first(1, 2, 5, 1), entered(1, 1)}
			tells(t, "a greater slot", k, m)
			for _, slot := range []int{0, 1, 4} {
				for _, v := range []api.Vote{second(0, 0, slot, 2), second(1, 2, slot, 2), second(60, 40, slot, 2)} {
					if e := k.Take(v); e != api.ErrOld {
						t.Errorf("%v is taken with %v", brief(v), e)
					}
					tells(t, "a lesser slot", k, m)
				}
			}
			samples.Told(t, "the same slot, and others", api.OK, k.Take(second(1, 2, 5, 3)), k.Take(second(0, 0, 6, 4)), k.Take(first(0, 0, 60, 5)))
			tells(t, "the greatest slot", k, model{entered(1, 1), first(0, 0, 60, 5)})
		}
	}
}

// P13.2: of the slot 0 votes are kept as of any other.
func TestSlotNought(t *testing.T) {
	k := bookOf(t, wrote(1, 2, 0, 1), accepted(1, 2, 0, 2), wrote(1, 2, 0, 3))
	tells(t, "the slot 0", k, model{wrote(1, 2, 0, 1), accepted(1, 2, 0, 2)})
	samples.Told(t, "behind it", api.OK, k.Take(accepted(0, 0, 1, 4)))
	tells(t, "behind the slot 0", k, model{accepted(0, 0, 1, 4)})
	samples.Told(t, "ahead of it", api.ErrOld, k.Take(wrote(1, 2, 0, 1)), k.Take(accepted(1, 2, 0, 1)))
}

// P13.2: what isn't formed changes nothing, and that is told ahead of how old it is; what is too much is refused so, too.
func TestTakeOfWrong(t *testing.T) {
	m := model{entered(1, 2), wrote(1, 2, 30, 1), accepted(1, 2, 30, 2)}
	k := bookOf(t, m...)
	for _, v := range slices.Concat(wrongVotes(), farVotes(), fullVotes()) {
		if e := k.Take(v); e != api.ErrArg {
			t.Errorf("%v is taken with %v", brief(v), e)
		}
	}
	tells(t, "behind what isn't formed", k, m)
}

// P13.3: all are told by rising view, then regency, in whatever order they came; what was accepted behind them.
func TestAll(t *testing.T) {
	want := []api.Vote{entered(7, 7), wrote(0, 40, 5, 1), wrote(2, 9, 5, 2), wrote(2, 10, 5, 3), wrote(10, 1, 5, 4), accepted(2, 9, 5, 5)}
	for _, order := range samples.Orders(want) {
		if got := bookOf(t, order...).All(); !slices.EqualFunc(got, want, same) {
			t.Fatalf("%v; want %v", briefs(got), briefs(want))
		}
	}
}

// P13.3: what a book tells of its votes alone: without an entered regency, without what was accepted, without anything written.
func TestAllOfSome(t *testing.T) {
	for _, want := range [][]api.Vote{{entered(1, 2)}, {wrote(1, 2, 3, 4)}, {accepted(1, 2, 3, 4)}, {entered(1, 2), accepted(1, 2, 3, 4)}, {wrote(1, 2, 3, 4), accepted(0, 0, 3, 4)}} {
		if got := bookOf(t, want...).All(); !slices.EqualFunc(got, want, same) {
			t.Errorf("%v; want %v", briefs(got), briefs(want))
		}
	}
}

// P13.3, P13.4: of each regency there is something is written; a book that takes all of it is that book, and a greater slot ends it all.
func TestAllOfEach(t *testing.T) {
	m := model{entered(60, 40)}
	for view := range 61 {
		for reg := range 41 {
			m = append(m, wrote(view, reg, 5, byte(view+reg)))
		}
	}
	want := append(slices.Clone(m), accepted(60, 40, 5, 1))
	k := bookOf(t, accepted(60, 40, 5, 1))
	for _, v := range slices.Backward(m) {
		samples.Told(t, "each regency", api.OK, k.Take(v))
	}
	for what, k := range map[string]*votes.Book{"the book": k, "made anew": bookOf(t, k.All()...)} {
		if got := k.All(); !slices.EqualFunc(got, want, same) {
			t.Errorf("%s: %d votes; want %d", what, len(got), len(want))
		}
		samples.Told(t, what, api.OK, k.Take(wrote(0, 0, 6, 1)))
		tells(t, what, k, model{entered(60, 40), wrote(0, 0, 6, 1)})
	}
}

// P13.4: of a nil Book nothing is told, and that it is nil is told of any vote.
func TestNilBook(t *testing.T) {
	var k *votes.Book
	for _, v := range slices.Concat([]api.Vote{entered(1, 2), wrote(1, 2, 3, 4), accepted(1, 2, 3, 4)}, wrongVotes()[:8], farVotes()[:8], fullVotes()[:8]) {
		samples.Told(t, "a nil book", api.ErrNil, k.Take(v))
	}
	tells(t, "a nil book", k, nil)
	for _, x := range samples.Numbers() {
		none(t, "a nil book", k, [2]int{x, 0}, [2]int{0, x}, [2]int{x, x})
	}
}
