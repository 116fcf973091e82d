package samples_test

import (
	"bytes"
	"encoding/binary"
	"fmt"
	"math/rand/v2"
	"slices"
	"testing"

	"consistory/api"
	"consistory/samples"
)

// A text has as many bytes as are asked for, and is the same again from the same source.
func TestText(t *testing.T) {
	a, b := rand.New(rand.NewPCG(1, 2)), rand.New(rand.NewPCG(1, 2))
	for n := range 40 {
		x, y := samples.Text(a, n), samples.Text(b, n)
		if len(x) != n || !bytes.Equal(x, y) {
			t.Errorf("%d bytes: %x and %x", n, x, y)
		}
	}
	if h := samples.Hash(a); h != samples.Hash(b) || h == (api.Hash{}) {
		t.Errorf("a digest: %x", h)
	}
}

// Of each length there is a text, in order, and none is another's memory.
func TestTexts(t *testing.T) {
	r := rand.New(rand.NewPCG(1, 2))
	l := samples.Texts(r, 3, 0, 40, 40)
	for i, n := range []int{3, 0, 40, 40} {
		if len(l) != 4 || len(l[i]) != n {
			t.Fatalf("%x", l)
		}
	}
	if bytes.Equal(l[2], l[3]) || len(samples.Texts(r)) != 0 {
		t.Errorf("%x", l)
	}
}

// Ahead of the bytes stands what the library makes of their length.
func TestLengthAnd(t *testing.T) {
	r := rand.New(rand.NewPCG(1, 2))
	for _, n := range []int{0, 1, 2, 100, 127, 128, 129, 255, 256, 1000, 16383, 16384, 65535, 65536, 1<<21 - 1, 1 << 21} {
		b := samples.Text(r, n)
		before := bytes.Clone(b)
		want := append(binary.AppendUvarint(nil, uint64(n)), b...)
		if got := samples.LengthAnd(b); !bytes.Equal(got, want) || !bytes.Equal(b, before) {
			t.Errorf("%d bytes begin with % x", n, got[:min(len(got), 5)])
		}
	}
}

// Ahead of texts stands the number that is told, whether or not they are so many; each has its length ahead.
func TestCountAnd(t *testing.T) {
	l := samples.Texts(rand.New(rand.NewPCG(1, 2)), 3, 0, 300)
	for _, n := range []uint64{0, 1, 3, 127, 128, 1 << 32, 1<<64 - 1} {
		for size := range len(l) + 1 {
			want := binary.AppendUvarint(nil, n)
			for _, b := range l[:size] {
				want = append(binary.AppendUvarint(want, uint64(len(b))), b...)
			}
			if got := samples.CountAnd(n, l[:size]...); !bytes.Equal(got, want) {
				t.Errorf("%d, and %d texts: % x", n, size, got)
			}
		}
	}
}

// No digest is there twice; the noughts and the ones stand ahead.
func TestHashes(t *testing.T) {
	l := samples.Hashes(rand.New(rand.NewPCG(1, 2)))
	seen := map[api.Hash]bool{}
	for _, h := range l {
		seen[h] = true
	}
	if len(seen) != len(l) || l[0] != (api.Hash{}) || !bytes.Equal(l[1][:], bytes.Repeat([]byte{0xff}, 32)) {
		t.Errorf("%x", l)
	}
}

// A view shares its array with the whole, which has room behind it.
func TestRoomy(t *testing.T) {
	for _, b := range [][]byte{nil, {1}, {1, 2, 3}} {
		whole, view := samples.Roomy(b)
		if !bytes.Equal(view, b) || len(whole) <= len(b) || cap(view) != len(whole) || cap(whole) != len(whole) {
			t.Errorf("%x: %x of %x", b, view, whole)
		}
		view = append(view, 5)
		if whole[len(b)] != 5 || !bytes.Equal(view[:len(b)], b) {
			t.Errorf("%x: what is put behind the view isn't in the whole", b)
		}
	}
}

// filled is a message with all that one can have.
func filled() api.Msg {
	return api.Msg{Kind: 1, From: 2, View: 3, Reg: 4, Slot: 5, Hash: api.Hash{6}, Body: []byte{7, 8}, Parts: [][]byte{{9}, nil, {10, 11}}}
}

// others are messages each of which is filled but for one thing.
func others() []api.Msg {
	l := make([]api.Msg, 11)
	for i := range l {
		l[i] = filled()
	}
	l[0].Kind, l[1].From, l[2].View, l[3].Reg, l[4].Slot = 2, 3, 4, 5, 6
	l[5].Hash[31], l[6].Body[1], l[7].Parts[2][0] = 1, 1, 1
	l[8].Body, l[9].Parts, l[10].Parts[1] = nil, l[9].Parts[:2], []byte{0}
	return l
}

// Messages are one if all of them is; what there is nothing of may be nil.
func TestSameMsg(t *testing.T) {
	m := filled()
	m.Parts[1] = []byte{}
	if !samples.SameMsg(filled(), m) || !samples.SameMsg(api.Msg{}, api.Msg{Body: []byte{}, Parts: [][]byte{}}) {
		t.Error("one message is two")
	}
	for i, m := range others() {
		if samples.SameMsg(filled(), m) || samples.SameMsg(m, filled()) || !samples.SameMsg(m, m) {
			t.Errorf("message %d is the filled one, or not its own", i)
		}
	}
	if got := samples.BriefMsg(filled()); !slices.Equal(got, []int{1, 2, 3, 4, 5, 2, 3}) {
		t.Error(got)
	}
}

// Texts with room behind them are the same ones; what is put into the room, or into the list of them, is noticed.
func TestRoomyTexts(t *testing.T) {
	for _, l := range [][][]byte{nil, {nil}, {{1}, {}, {2, 3}}} {
		view, stays := samples.RoomyTexts(l)
		if !slices.EqualFunc(view, l, bytes.Equal) || cap(view) <= len(l) || !stays() {
			t.Errorf("%x: %x", l, view)
		}
		_ = append(view, []byte{4})
		if stays() {
			t.Errorf("%x: one more is there, and nobody tells", l)
		}
		for i := range l {
			view, stays := samples.RoomyTexts(l)
			_ = append(view[i], 5)
			if cap(view[i]) <= len(l[i]) || stays() {
				t.Errorf("%x: text %d has a byte more, and nobody tells", l, i)
			}
		}
	}
}

// A message with room behind it is the same one; each byte that is written, and each part that is changed, is noticed.
func TestRoomyMsg(t *testing.T) {
	for _, m := range append(others(), filled(), api.Msg{}) {
		view, stays := samples.RoomyMsg(m)
		if !samples.SameMsg(view, m) || !stays() || cap(view.Body) <= len(m.Body) || cap(view.Parts) <= len(m.Parts) {
			t.Errorf("%v isn't the same", m)
		}
		for _, b := range append([][]byte{view.Body}, view.Parts...) {
			whole := b[:cap(b)]
			for i := range whole {
				whole[i]++
				if stays() {
					t.Errorf("%v: byte %d is changed, and nobody tells", m, i)
				}
				whole[i]--
			}
		}
		list := view.Parts[:cap(view.Parts)]
		for i, part := range list {
			list[i] = []byte{1, 2, 3}
			if stays() {
				t.Errorf("%v: part %d is changed, and nobody tells", m, i)
			}
			list[i] = part
		}
		if !stays() {
			t.Errorf("%v: all is as it was, and it isn't told", m)
		}
	}
}

// Spoiling changes each byte, those of the spare room too; done twice it is as if never done.
func TestSpoil(t *testing.T) {
	whole, view := samples.Roomy([]byte{1, 2, 3})
	before := bytes.Clone(whole)
	samples.Spoil(view)
	for i := range whole {
		if whole[i] == before[i] {
			t.Errorf("byte %d is as it was", i)
		}
	}
	samples.Spoil(view)
	if !bytes.Equal(whole, before) {
		t.Errorf("%x; want %x", whole, before)
	}
	samples.Spoil(nil)
}

// Wild and near messages are the same again from the same source; near ones have numbers within, at and beyond the bounds.
func TestAnyMsg(t *testing.T) {
	a, b := rand.New(rand.NewPCG(1, 2)), rand.New(rand.NewPCG(1, 2))
	kinds, senders, slots, parts, below := map[int]bool{}, map[int]bool{}, map[int]bool{}, map[int]bool{}, 0
	for range 3000 {
		wild, near := samples.WildMsg(a), samples.NearMsg(a)
		if !samples.SameMsg(wild, samples.WildMsg(b)) || !samples.SameMsg(near, samples.NearMsg(b)) {
			t.Fatal("they are others")
		}
		kinds[near.Kind], senders[near.From], slots[near.Slot], parts[len(near.Parts)] = true, true, true, true
		if wild.From < 0 {
			below++
		}
	}
	if len(kinds) != 14 || len(senders) != 17 || len(slots) != 62 || len(parts) != 20 || below == 0 {
		t.Errorf("%d kinds, %d senders, %d slots, %d numbers of parts, %d below 0", len(kinds), len(senders), len(slots), len(parts), below)
	}
}

// Of so many there are as many orders as there may be, the first one as they stand; each has all of them, none is there twice, and none is another's memory.
func TestOrders(t *testing.T) {
	l := []int{4, 1, 3, 2, 5}
	for n, count := range []int{1, 1, 2, 6, 24, 120} {
		all := samples.Orders(l[:n])
		seen := map[string]bool{}
		for _, order := range all {
			seen[fmt.Sprint(order)] = true
			if !slices.Equal(slices.Sorted(slices.Values(order)), slices.Sorted(slices.Values(l[:n]))) {
				t.Errorf("of %v: %v", l[:n], order)
			}
		}
		if len(all) != count || len(seen) != count || !slices.Equal(all[0], l[:n]) {
			t.Errorf("%d orders of %v, %d of them other ones", len(all), l[:n], len(seen))
		}
		for _, order := range all[1:] {
			clear(order[:cap(order)])
		}
		if !slices.Equal(all[0], []int{4, 1, 3, 2, 5}[:n]) {
			t.Errorf("%v change with others", all[0])
		}
	}
}

// Each list of a spoiled message is spoiled, and it has no parts any more that were.
func TestSpoilMsg(t *testing.T) {
	m := filled()
	body, first, last := m.Body, m.Parts[0], m.Parts[2]
	samples.SpoilMsg(m)
	if body[0] == 7 || body[1] == 8 || first[0] == 9 || last[0] == 10 || last[1] == 11 || m.Parts[0] != nil || m.Parts[2] != nil {
		t.Errorf("%v of %x, %x, %x", m, body, first, last)
	}
	samples.SpoilMsg(api.Msg{})
}

// Lists that share memory, spare room included, are told from such that don't.
func TestApartMsg(t *testing.T) {
	b := []byte{1, 2, 3, 4, 5, 6}
	for _, m := range []api.Msg{{}, filled(), {Body: b[:3:3], Parts: [][]byte{b[3:4:4], b[4:]}}} {
		if !samples.ApartMsg(m) || !samples.Apart(m.Parts) {
			t.Errorf("%v: apart", m)
		}
	}
	for _, m := range []api.Msg{{Body: b, Parts: [][]byte{{1}, b[5:]}}, {Body: b[:3], Parts: [][]byte{b[3:]}}, {Parts: [][]byte{b[3:], b}}, {Parts: [][]byte{{1}, b[:2], nil, b[2:]}}} {
		if samples.ApartMsg(m) {
			t.Errorf("%v: not apart", m)
		}
	}
	if samples.Apart([][]byte{b[:1], b[1:2:2]}) || !samples.Apart([][]byte{b[:1:1], b[1:2]}) {
		t.Error("of two lists: whether they are apart")
	}
}

// No number is there twice, and one that is handed out is nobody else's.
func TestNumbers(t *testing.T) {
	single(t, samples.Numbers)
}

// Nor is one of the ends; folded they have few bytes, more, and as many as there may be.
func TestEnds(t *testing.T) {
	single(t, samples.Ends)
	lengths := map[int]bool{}
	for _, x := range samples.Ends() {
		lengths[len(binary.AppendVarint(nil, x))] = true
	}
	for _, n := range []int{1, 2, 3, 5, 10} {
		if !lengths[n] {
			t.Errorf("none has %d bytes: %v", n, lengths)
		}
	}
}

// single checks that no number of the list is there twice, that it begins with 0 and has -1, and that each list is new.
func single[N int | int64](t *testing.T, list func() []N) {
	t.Helper()
	l := list()
	seen := map[N]bool{}
	for i, n := range l {
		if seen[n] {
			t.Errorf("%d is there twice", n)
		}
		seen[n] = true
		l[i] = 7
	}
	if again := list(); len(again) != len(seen) || again[0] != 0 || !seen[0] || !seen[-1] {
		t.Error("the numbers are others:", again)
	}
}
