package execs_test

import (
	"encoding/binary"
	"math"
	"math/rand/v2"
	"slices"
	"testing"

	"consistory/api"
	"consistory/execs"
	"consistory/samples"
)

const (
	clients = 6         // clients, the administrator among them
	keys    = 16        // keys that there are
	allOf   = 1<<16 - 1 // the set of all of them, a bit each
	numMost = 60        // the greatest number of a view
)

// value is the cell of a key that has the value n.
func value(n int64) api.Cell {
	return api.Cell{There: true, N: n}
}

// put is a client's request that a key gets the value n.
func put(client, seq, key int, n int64) api.Req {
	return api.Req{Client: client, Seq: seq, Op: api.Op{Kind: api.KPut, Key: key, A: n}}
}

// change is the administrator's request for the view of mask.
func change(seq int, mask int64) api.Req {
	return api.Req{Seq: seq, Op: api.Op{Kind: api.KView, A: mask}}
}

// answer is the reply to that request, done in that slot.
func answer(client, seq, slot int, ok bool, n int64) api.Reply {
	return api.Reply{Client: client, Seq: seq, Slot: slot, Res: api.Res{OK: ok, N: n}}
}

// rightViews are views of the first and the last numbers, and one between.
func rightViews() []api.View {
	var l []api.View
	for _, num := range []int{0, 1, 30, numMost - 1, numMost} {
		for _, mask := range samples.RightMasks() {
			l = append(l, api.View{Num: num, Mask: mask})
		}
	}
	return l
}

// wrongViews are views that aren't right, by the number, the mask or both.
func wrongViews() []api.View {
	l := []api.View{{}, {Num: -1}, {Num: numMost + 1}}
	for _, mask := range samples.WrongMasks() {
		l = append(l, api.View{Num: 5, Mask: mask})
	}
	for _, num := range []int{-1, math.MinInt, numMost + 1, 65535, 65536 + 5, math.MaxInt} {
		l = append(l, api.View{Num: num, Mask: 15})
	}
	return l
}

// farClients are numbers that no client has, such of which the lowest bytes look like one's among them.
func farClients() []int {
	l := []int{-1, -2, -6, clients, clients + 1, 9, 255, 256 + 1, 1<<32 + 1, -255, -256, math.MinInt + 1}
	for _, x := range samples.Numbers() {
		if x < 0 || x >= clients {
			l = append(l, x)
		}
	}
	return l
}

// replyBytes are r's bytes, by the library's numbers; of each number but N the lowest byte.
func replyBytes(r api.Reply) []byte {
	b := []byte{byte(r.Client), byte(r.Seq), byte(r.Slot), 0}
	if r.Res.OK {
		b[3] = 1
	}
	return binary.AppendVarint(b, r.Res.N)
}

// viewBytes are v's bytes; none of one that isn't right.
func viewBytes(v api.View) []byte {
	if slices.Contains(wrongViews(), v) {
		return nil
	}
	b := binary.BigEndian.AppendUint16(nil, uint16(v.Num))
	return binary.BigEndian.AppendUint16(b, v.Mask)
}

// headOf are the bytes of w's numbers.
func headOf(w api.World) []byte {
	b := binary.BigEndian.AppendUint16(nil, uint16(w.Slot))
	return binary.BigEndian.AppendUint16(b, uint16(w.First))
}

// textsOf are the texts behind these: two views, the values, and a reply of each client.
func textsOf(w api.World) [][]byte {
	l := [][]byte{viewBytes(w.View), viewBytes(w.Was), samples.CellsBytes(w.Cells)}
	for _, r := range w.Last {
		l = append(l, replyBytes(r))
	}
	return l
}

// joined are the texts, each with its length, behind what stands ahead of them.
func joined(head []byte, l [][]byte) []byte {
	b := slices.Clone(head)
	for _, text := range l {
		b = append(b, samples.LengthAnd(text)...)
	}
	return b
}

// worldBytes are w's bytes, by the library's numbers; of each number as many of the lowest bytes as tell it.
func worldBytes(w api.World) []byte {
	return joined(headOf(w), textsOf(w))
}

// anyReply is one of which the numbers fit.
func anyReply(r *rand.Rand) api.Reply {
	return answer(r.IntN(256), r.IntN(256), r.IntN(256), r.IntN(2) == 0, samples.AnyNumber(r))
}

// anyView is one that is right.
func anyView(r *rand.Rand) api.View {
	l := samples.RightMasks()
	return api.View{Num: r.IntN(numMost + 1), Mask: l[r.IntN(len(l))]}
}

// anyWorld is one of which the numbers fit and the views are right, whether or not any batch leads to it.
func anyWorld(r *rand.Rand) api.World {
	w := api.World{Slot: r.IntN(65536), First: r.IntN(65536), View: anyView(r), Was: anyView(r), Cells: samples.AnyCells(r)}
	for client := range w.Last {
		w.Last[client] = anyReply(r)
	}
	return w
}

// greatest is the world that has the most bytes.
func greatest() api.World {
	w := api.World{Slot: 65535, First: 65535, View: api.View{Num: numMost, Mask: 0xfe00}, Was: api.View{Num: numMost, Mask: 127}}
	w.Cells = samples.Among(allOf, []int64{math.MinInt64, math.MaxInt64})
	for client := range w.Last {
		w.Last[client] = answer(255, 255, 255, true, math.MinInt64)
	}
	return w
}

// someWorlds are worlds of all sorts of which the numbers fit and the views are right.
func someWorlds() []api.World {
	r := chance()
	l := []api.World{execs.First(api.View{Mask: 15}), execs.First(api.View{Num: numMost, Mask: 0xf000}), greatest()}
	for range 20 {
		l = append(l, anyWorld(r))
	}
	return l
}

// strayed is w with a number at each key that has no value.
func strayed(w api.World) api.World {
	w.Cells = samples.Strayed(w.Cells)
	return w
}

// comes checks which world is behind a batch, and what is answered.
func comes(t *testing.T, what string, w api.World, l []api.Req, behind api.World, want ...api.Reply) {
	t.Helper()
	if got, replies := execs.Do(w, l); got != behind || !slices.Equal(replies, want) {
		t.Errorf("%s: %v is\n%v with %v; want\n%v with %v", what, l, got, replies, behind, want)
	}
}

// in is w in the slot behind its own, with nothing done.
func in(w api.World) api.World {
	w.Slot, w.Was = w.Slot+1, w.View
	return w
}

// with is w with a client's last reply.
func with(w api.World, r api.Reply) api.World {
	w.Last[r.Client] = r
	return w
}

// refusedGet checks that b tells no world, but the error want.
func refusedGet(t *testing.T, what string, b []byte, want api.Errno) {
	t.Helper()
	if w, e := execs.Get(b); e != want || w != (api.World{}) {
		t.Errorf("%s: %.100x is %v, %v; want %v", what, b, w, e, want)
	}
}

// refusedReply checks that b tells no reply, but the error want.
func refusedReply(t *testing.T, what string, b []byte, want api.Errno) {
	t.Helper()
	if r, e := execs.GetReply(b); e != want || r != (api.Reply{}) {
		t.Errorf("%s: %.100x is %v, %v; want %v", what, b, r, e, want)
	}
}

// chance is a source of numbers that is always the same.
func chance() *rand.Rand {
	return rand.New(rand.NewPCG(15, 4))
}
