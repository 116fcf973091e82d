package views_test

import (
	"bytes"
	"slices"
	"sync"
	"testing"

	"consistory/api"
	"consistory/samples"
	"consistory/views"
)

// Ways: a view is a key of maps by its value: what is got, or comes next, finds what was kept by a like one.
func TestViewIsKey(t *testing.T) {
	place := map[api.View]int{}
	for i, v := range rightViews() {
		place[v] = i
	}
	if len(place) != len(rightViews()) {
		t.Fatalf("%d keys", len(place))
	}
	for i, v := range rightViews() {
		got, _ := views.Get(views.Put(v))
		if at, ok := place[got]; !ok || at != i {
			t.Errorf("%v is found at %d, %v", v, at, ok)
		}
		if next, e := views.Next(v, int64(v.Mask)); e == api.OK && place[next] != i+len(samples.RightMasks()) {
			t.Errorf("the next of %v is found at %d", v, place[next])
		}
	}
}

// R3: nil and nothing are one.
func TestNilIsNothing(t *testing.T) {
	if _, e := views.Get(nil); e != api.ErrShort {
		t.Error("nil:", e)
	}
	if _, e := views.Get([]byte{}); e != api.ErrShort {
		t.Error("nothing:", e)
	}
}

// R4: bytes that are handed in aren't changed, spare room included, and what is behind them tells nothing.
func TestHandedInStays(t *testing.T) {
	for _, b := range [][]byte{nil, {0}, {0, 3, 0x80}, {0, 3, 0x80, 0x15}, {0, 3, 0, 7}, {0, 3, 0x80, 0x15, 0}} {
		whole, view := samples.Roomy(b)
		before := slices.Clone(whole)
		v, e := views.Get(view)
		if !bytes.Equal(whole, before) {
			t.Errorf("%x is changed", b)
		}
		w, f := views.Get(b)
		if v != w || e != f {
			t.Errorf("%x: %v, %v with room behind; %v, %v without", b, v, e, w, f)
		}
		samples.Spoil(view)
		if again, f := views.Get(b); again != w || f != e {
			t.Errorf("%x: another answer behind a spoilt one", b)
		}
	}
}

// R4: members that are answered are new memory: whoever writes into them changes no view and no later answer.
func TestMembersAreNew(t *testing.T) {
	v := api.View{Num: 3, Mask: 0x8015}
	first, second := views.Members(v), views.Members(v)
	first = first[:cap(first)]
	for i := range first {
		first[i] = -5
	}
	want := []int{0, 2, 4, 15}
	if !slices.Equal(second, want) || !slices.Equal(views.Members(v), want) || views.Leader(v, 1) != 2 || !views.Has(v, 0) {
		t.Error("they change with an earlier answer")
	}
}

// R4: so are the bytes.
func TestBytesAreNew(t *testing.T) {
	v := api.View{Num: 3, Mask: 0x8015}
	first, second := views.Put(v), views.Put(v)
	samples.Spoil(first)
	want := []byte{0, 3, 0x80, 0x15}
	if !bytes.Equal(second, want) || !bytes.Equal(views.Put(v), want) {
		t.Error("they change with an earlier answer")
	}
}

// R5: an answer hangs on the arguments alone, not on the calls ahead of it or beside it.
func TestSameAgain(t *testing.T) {
	all := append(rightViews(), wrongViews()...)
	var want []samples.Shares
	for _, v := range all {
		want = append(want, told(v))
	}
	var w sync.WaitGroup
	for range 4 {
		w.Go(func() {
			for i, v := range slices.Backward(all) {
				if told(v) != want[i] || !slices.Equal(views.Members(v), samples.Members(v.Mask)) {
					t.Errorf("of %v is told otherwise", v)
				}
				got, e := views.Get(views.Put(v))
				if views.Right(v) && (got != v || e != api.OK) {
					t.Errorf("%v is got as %v, %v", v, got, e)
				}
			}
		})
	}
	w.Wait()
}

// R1: every call ends and none panics, at all arguments.
func TestNeverPanics(t *testing.T) {
	r := chance()
	for _, num := range numbers() {
		for _, mask := range append(samples.WrongMasks(), samples.RightMasks()...) {
			v := api.View{Num: num, Mask: mask}
			for _, n := range numbers() {
				views.Has(v, n)
				views.Leader(v, n)
				views.Next(v, int64(n))
			}
			views.Get(views.Put(v))
			views.Get(samples.Text(r, r.IntN(7)))
			views.Members(v)
			told(v)
		}
	}
}
