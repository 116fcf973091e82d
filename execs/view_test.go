package execs_test

import (
	"math"
	"testing"

	"consistory/api"
	"consistory/execs"
	"consistory/samples"
)

// moved is w behind a batch of nothing but a request that brings the view of mask.
func moved(w api.World, seq int, mask uint16) api.World {
	w = in(w)
	w.View = api.View{Num: w.Was.Num + 1, Mask: mask}
	w.First = w.Slot + 1
	return with(w, answer(0, seq, w.Slot, true, int64(w.View.Num)))
}

// refusedView is w behind a batch of nothing but a request that brings no view.
func refusedView(w api.World, seq int) api.World {
	w = in(w)
	return with(w, answer(0, seq, w.Slot, false, 0))
}

// P15.1: behind each view the next one comes, of each members that may be, the same ones too, and begins with the next slot.
func TestView(t *testing.T) {
	for _, v := range rightViews() {
		for _, mask := range samples.RightMasks() {
			w := execs.First(v)
			w.Slot, w.First = 17, 4
			if behind := moved(w, 1, mask); v.Num < numMost {
				comes(t, "a view", w, []api.Req{change(1, int64(mask))}, behind, behind.Last[0])
			}
		}
	}
}

// P15.1: where no next view may be, by its members, by its number or by the view that there is, the administrator is told so, and the view stays with its First.
func TestViewRefused(t *testing.T) {
	for _, v := range append(rightViews(), wrongViews()...) {
		w := execs.First(v)
		w.Slot, w.First = 17, 4
		for _, mask := range samples.WrongMasks() {
			behind := refusedView(w, 3)
			comes(t, "wrong members", w, []api.Req{change(3, int64(mask))}, behind, behind.Last[0])
		}
	}
	for _, v := range append(wrongViews(), api.View{Num: numMost, Mask: 15}, api.View{Num: numMost, Mask: 0xfe00}) {
		w := execs.First(v)
		for _, mask := range samples.RightMasks() {
			behind := refusedView(w, 1)
			comes(t, "no number, or no view", w, []api.Req{change(1, int64(mask))}, behind, behind.Last[0])
		}
	}
}

// P15.1: of a mask that none has nothing is told at all, and nobody else may ask for a view.
func TestViewNotAsked(t *testing.T) {
	w := execs.First(api.View{Mask: 15})
	for _, mask := range []int64{-1, -15, 65536, 65536 + 15, 1<<32 + 15, math.MinInt64, math.MinInt64 + 15, math.MaxInt64} {
		comes(t, "no mask", w, []api.Req{change(1, mask)}, in(w))
	}
	for client := 1; client < clients; client++ {
		r := change(1, 31)
		r.Client = client
		comes(t, "another client's", w, []api.Req{r}, in(w))
	}
}

// P15.1: a batch brings one view at most, the first one that may be; those behind it are refused, whatever they ask for, and those ahead of it that were refused or left out stand in no one's way.
func TestOneView(t *testing.T) {
	w := execs.First(api.View{Num: 3, Mask: 15})
	w.Last[0] = answer(0, 2, 9, true, 3)
	refused := func(seq int) api.Reply { return answer(0, seq, 1, false, 0) }
	brought := answer(0, 4, 1, true, 4)
	for _, c := range []struct {
		masks []int64 // of the administrator's requests from 3 on
		view  uint16  // of the mask that comes to a view, or 0
		want  []api.Reply
	}{
		{[]int64{31, 63}, 31, []api.Reply{answer(0, 3, 1, true, 4), refused(4)}},
		{[]int64{31, 31, 15}, 31, []api.Reply{answer(0, 3, 1, true, 4), refused(4), refused(5)}},
		{[]int64{15, 31, 15}, 15, []api.Reply{answer(0, 3, 1, true, 4), refused(4), refused(5)}},
		{[]int64{7, 31, 63}, 31, []api.Reply{refused(3), brought, refused(5)}},
		{[]int64{0, 31, 7}, 31, []api.Reply{refused(3), brought, refused(5)}},
		{[]int64{-1, 31, 65536 + 15}, 31, []api.Reply{brought}},
		{[]int64{7, 255, 0, 1}, 0, []api.Reply{refused(3), refused(4), refused(5), refused(6)}},
	} {
		l := []api.Req{change(1, 127), change(2, 127)} // these were done already
		for i, mask := range c.masks {
			l = append(l, change(3+i, mask))
		}
		behind := in(w)
		behind.Last[0] = c.want[len(c.want)-1]
		if c.view > 0 {
			behind.View, behind.First = api.View{Num: 4, Mask: c.view}, 2
		}
		comes(t, "views", w, l, behind, c.want...)
	}
}

// P15.1: what else is in the batch is done in the slot as it would be without the view, ahead of it and behind it.
func TestViewAmongOthers(t *testing.T) {
	w := execs.First(api.View{Num: 3, Mask: 15})
	w.Slot, w.First = 40, 38
	behind := moved(w, 1, 0xf000)
	behind.Cells[1], behind.Last[1] = value(6), answer(1, 2, 41, true, 5)
	comes(t, "among others", w, []api.Req{put(1, 1, 1, 5), change(1, 0xf000), put(1, 2, 1, 6)}, behind, answer(1, 1, 41, true, 0), behind.Last[0], behind.Last[1])
}

// P15.1: views one behind the other, slot by slot, up to the last one that there may be: each slot was decided in the one ahead, and First stays till the next one comes.
func TestViewsInOrder(t *testing.T) {
	masks := samples.RightMasks()
	w := execs.First(api.View{Mask: 15})
	for seq := 1; seq <= numMost; seq++ {
		mask := masks[seq%len(masks)]
		behind := moved(w, seq, mask)
		comes(t, "the next view", w, []api.Req{change(seq, int64(mask))}, behind, behind.Last[0])
		w = behind
		comes(t, "that view again", w, []api.Req{change(seq, int64(mask))}, in(w))
		for range seq % 3 {
			comes(t, "no view", w, nil, in(w))
			w = in(w)
		}
	}
	behind := refusedView(w, numMost+1)
	comes(t, "there are no more", w, []api.Req{change(numMost+1, 15)}, behind, behind.Last[0])
	if w.View.Num != numMost || w.Was.Num < numMost-1 {
		t.Error(w)
	}
}

// Ways: a world is handed on by value: the one that was handed in is as it was, and finds what was kept by a like one.
func TestWorldIsKey(t *testing.T) {
	r := chance()
	place := map[api.World]int{}
	w := execs.First(api.View{Mask: 15})
	ahead := w
	var all []api.World
	for i := range 100 {
		place[w], all = i, append(all, w)
		w, _ = execs.Do(w, anyBatch(r, w))
	}
	if all[0] != ahead || len(place) != 100 {
		t.Errorf("there are %d worlds, and the first one is %v", len(place), all[0])
	}
	for i, one := range all {
		got, _ := execs.Get(execs.Put(one))
		if at, ok := place[got]; !ok || at != i {
			t.Errorf("world %d is found at %d, %v", i, at, ok)
		}
	}
}
