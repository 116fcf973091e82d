package execs_test

import (
	"bytes"
	"crypto/sha256"
	"encoding/binary"
	"math"
	"slices"
	"testing"

	"consistory/api"
	"consistory/execs"
	"consistory/samples"
)

const (
	textRoom = 1000 // bytes that are read as one of a world's texts, at most
	texts    = 9    // texts of a world: two views, the values, and a reply of each client
)

// putAndGot checks that w is put as those bytes, and got from them.
func putAndGot(t *testing.T, w api.World, want []byte) {
	t.Helper()
	if b := execs.Put(w); !bytes.Equal(b, want) {
		t.Errorf("%v: % x; want % x", w, b, want)
	}
	if v, e := execs.Get(want); e != api.OK || v != w {
		t.Errorf("% x: %v, %v; want %v", want, v, e, w)
	}
}

// P15.3: bytes written out by hand, and the library's digest of them.
func TestPutKnown(t *testing.T) {
	known := "\x00\x00\x00\x01" + "\x04\x00\x00\x00\x0f" + "\x04\x00\x00\x00\x0f" + "\x01\x00" +
		"\x05\x00\x00\x00\x00\x00" + "\x05\x01\x00\x00\x00\x00" + "\x05\x02\x00\x00\x00\x00" + "\x05\x03\x00\x00\x00\x00" + "\x05\x04\x00\x00\x00\x00" + "\x05\x05\x00\x00\x00\x00"
	w := execs.First(api.View{Mask: 15})
	putAndGot(t, w, []byte(known))
	if h := execs.Digest(w); h != sha256.Sum256([]byte(known)) {
		t.Errorf("%x", h)
	}
	w, _ = execs.Do(w, []api.Req{put(1, 2, 3, 5), change(1, 0x801f), {Client: 1, Seq: 3, Op: api.Op{Kind: api.KAdd, Key: 3, A: -300}}})
	putAndGot(t, w, []byte("\x00\x01\x00\x02"+"\x04\x00\x01\x80\x1f"+"\x04\x00\x00\x00\x0f"+"\x04\x01\x03\xcd\x04"+
		"\x05\x00\x01\x01\x01\x02"+"\x06\x01\x03\x01\x01\xcd\x04"+"\x05\x02\x00\x00\x00\x00"+"\x05\x03\x00\x00\x00\x00"+"\x05\x04\x00\x00\x00\x00"+"\x05\x05\x00\x00\x00\x00"))
}

// P15.3, P15.4: worlds of all sorts, whether or not any batch leads to them, are got as they were put.
func TestPutOfEach(t *testing.T) {
	r := chance()
	for _, w := range someWorlds() {
		putAndGot(t, w, worldBytes(w))
	}
	for range 3000 {
		w := anyWorld(r)
		putAndGot(t, w, worldBytes(w))
	}
	for _, v := range rightViews() {
		w := execs.First(v)
		w.Was = anyView(r)
		putAndGot(t, w, worldBytes(w))
	}
}

// P15.3, P15.4: each Slot and each First that two bytes tell; of others the lowest two bytes are put, as layer 1 does.
func TestPutNumbers(t *testing.T) {
	w := execs.First(api.View{Mask: 15})
	for x := range 65536 {
		w.Slot, w.First = x, 65535-x
		if b := execs.Put(w); !bytes.Equal(b[:4], headOf(w)) {
			t.Fatalf("%d and %d: % x", w.Slot, w.First, b[:4])
		}
		if got, e := execs.Get(worldBytes(w)); e != api.OK || got != w {
			t.Fatalf("%d and %d: %v, %v", w.Slot, w.First, got, e)
		}
	}
	for _, x := range append(samples.Numbers(), 65536+5, 1<<32+5) {
		for _, far := range []api.World{{Slot: x, First: 5}, {Slot: 5, First: x}} {
			far.View, far.Was = w.View, w.Was
			far.Last[3] = answer(x, 1, x, true, 0)
			if b := execs.Put(far); !bytes.Equal(b, worldBytes(far)) {
				t.Errorf("%d: % x; want % x", x, b, worldBytes(far))
			}
		}
	}
}

// P15.3: of a view that isn't right nothing is put, and that is no view.
func TestPutOfWrongViews(t *testing.T) {
	right := api.View{Num: 3, Mask: 31}
	for _, v := range wrongViews() {
		for _, w := range []api.World{{View: v, Was: right}, {View: right, Was: v}, {View: v, Was: v}} {
			b := execs.Put(w)
			if !bytes.Equal(b, worldBytes(w)) {
				t.Errorf("%v: % x; want % x", w, b, worldBytes(w))
			}
			refusedGet(t, "no view", b, api.ErrShort)
		}
	}
}

// P15.3, R3: a number where there is no value isn't put, and is got as 0.
func TestPutOfStrayNumbers(t *testing.T) {
	for _, w := range someWorlds() {
		b := execs.Put(strayed(w))
		if !bytes.Equal(b, worldBytes(w)) || execs.Digest(strayed(w)) != execs.Digest(w) {
			t.Errorf("%v: % x; want % x", strayed(w), b, worldBytes(w))
		}
		if got, e := execs.Get(b); e != api.OK || got != w {
			t.Errorf("%v is got as %v, %v", strayed(w), got, e)
		}
	}
}

// P15.3: the digest is that of the bytes, and another one if anything of the world is another.
func TestDigest(t *testing.T) {
	for _, w := range someWorlds() {
		if h := execs.Digest(w); h != sha256.Sum256(worldBytes(w)) {
			t.Errorf("%v: %x", w, h)
		}
	}
	w := execs.First(api.View{Num: 3, Mask: 15})
	seen := map[api.Hash]int{execs.Digest(w): -1}
	for i, change := range []func(w *api.World){
		func(w *api.World) { w.Slot++ }, func(w *api.World) { w.First++ },
		func(w *api.World) { w.View.Num++ }, func(w *api.World) { w.View.Mask = 31 },
		func(w *api.World) { w.Was.Num++ }, func(w *api.World) { w.Was.Mask = 31 },
		func(w *api.World) { w.Cells[0].There = true }, func(w *api.World) { w.Cells[15] = value(0) }, func(w *api.World) { w.Cells[15] = value(1) },
		func(w *api.World) { w.Last[0].Client++ }, func(w *api.World) { w.Last[0].Seq++ }, func(w *api.World) { w.Last[0].Slot++ },
		func(w *api.World) { w.Last[5].Res.OK = true }, func(w *api.World) { w.Last[5].Res.N++ }, func(w *api.World) { w.Last[4].Res.N-- },
	} {
		v := w
		change(&v)
		if other, there := seen[execs.Digest(v)]; there {
			t.Errorf("the changes %d and %d have one digest", i, other)
		}
		seen[execs.Digest(v)] = i
	}
}

// P15.3: bytes that end anywhere within are too short.
func TestGetShort(t *testing.T) {
	for _, w := range someWorlds() {
		b := worldBytes(w)
		for n := range b {
			refusedGet(t, "cut", b[:n], api.ErrShort)
		}
	}
}

// P15.3: bytes that are left are refused.
func TestGetLeft(t *testing.T) {
	for _, w := range someWorlds() {
		b := worldBytes(w)
		for _, left := range [][]byte{{0}, {0x80}, {5, 0, 0, 0, 0, 0}, b, make([]byte, 3000)} {
			refusedGet(t, "left", slices.Concat(b, left), api.ErrForm)
		}
	}
}

// wrong is a text that is none of its place, and the error that it has there.
type wrong struct {
	text []byte
	want api.Errno
}

// wrongTexts are such of a world's i-th text; those of 1000 bytes are read whole.
func wrongTexts(i int) []wrong {
	long := make([]byte, textRoom)
	switch {
	case i < 2:
		return []wrong{
			{nil, api.ErrShort}, {[]byte{0}, api.ErrShort}, {[]byte{0, 0, 0}, api.ErrShort},
			{[]byte{0, 0, 0, 15, 0}, api.ErrForm}, {[]byte{0, 61, 0, 15}, api.ErrForm}, {[]byte{0, 0, 0, 7}, api.ErrForm}, {[]byte{0, 0, 0, 0}, api.ErrForm}, {long, api.ErrForm},
		}
	case i == 2:
		return []wrong{
			{nil, api.ErrShort}, {[]byte{1}, api.ErrShort}, {[]byte{1, 3}, api.ErrShort}, {[]byte{2, 3, 5}, api.ErrShort},
			{[]byte{17}, api.ErrRange}, {slices.Concat([]byte{17}, long[1:]), api.ErrRange},
			{[]byte{1, 16, 5}, api.ErrForm}, {[]byte{2, 3, 5, 3, 5}, api.ErrForm}, {[]byte{0, 0}, api.ErrForm}, {[]byte{0x80, 0}, api.ErrForm}, {long, api.ErrForm},
		}
	}
	return []wrong{
		{nil, api.ErrShort}, {[]byte{1, 2, 3, 1}, api.ErrShort}, {[]byte{1, 2, 3, 2, 0x80}, api.ErrShort},
		{[]byte{1, 2, 3, 2, 5}, api.ErrForm}, {[]byte{1, 2, 3, 1, 5, 0}, api.ErrForm}, {[]byte{1, 2, 3, 1, 0x80, 0}, api.ErrForm}, {long, api.ErrForm},
	}
}

// P15.3: of each text, once it is read, its error is told: ahead of what is wrong behind it, what misses there and what is left at last; but a text that isn't whole is too short, whatever is in it.
func TestGetWrongTexts(t *testing.T) {
	w := greatest()
	for i := range texts {
		for _, one := range wrongTexts(i) {
			l := textsOf(w)
			l[i] = one.text
			whole := joined(headOf(w), l)
			end := len(joined(headOf(w), l[:i+1]))
			refusedGet(t, "a wrong text", whole, one.want)
			refusedGet(t, "a wrong text, and bytes left", append(slices.Clone(whole), 0), one.want)
			refusedGet(t, "nothing behind a wrong text", whole[:end], one.want)
			refusedGet(t, "one that is too long behind a wrong text", append(slices.Clone(whole[:end]), 0xe9, 7), one.want)
			if len(one.text) > 0 {
				refusedGet(t, "a wrong text that is cut", whole[:end-1], api.ErrShort)
			}
			for j := i + 1; j < texts; j++ {
				for _, other := range wrongTexts(j) {
					both := slices.Clone(l)
					both[j] = other.text
					refusedGet(t, "two wrong texts", joined(headOf(w), both), one.want)
				}
			}
		}
	}
}

// P15.3: texts of more than 1000 bytes are too long, whether or not the bytes are there, and each length is told by as few bytes as can be.
func TestGetLengths(t *testing.T) {
	w := greatest()
	for i := range texts {
		ahead := joined(headOf(w), textsOf(w)[:i])
		for _, n := range []uint64{textRoom + 1, textRoom + 2, 1024, 65536, 1 << 32, 1<<32 + 4, 1 << 63, math.MaxUint64} {
			length := binary.AppendUvarint(slices.Clone(ahead), n)
			refusedGet(t, "too long, and not there", length, api.ErrRange)
			refusedGet(t, "too long", append(length, make([]byte, min(n, 70000))...), api.ErrRange)
		}
		for _, n := range []uint64{1, 4, 5, 127, 128, textRoom - 1, textRoom} {
			length := binary.AppendUvarint(slices.Clone(ahead), n)
			refusedGet(t, "not there", append(length, make([]byte, n-1)...), api.ErrShort)
		}
		for _, length := range []string{"\x80\x00", "\x84\x00", "\x85\x80\x00", "\xe9\x87\x00", "\xff\xff\xff\xff\xff\xff\xff\xff\xff\x02", "\xff\xff\xff\xff\xff\xff\xff\xff\xff\x80"} {
			refusedGet(t, "a length that isn't told so", slices.Concat(ahead, []byte(length), make([]byte, 2000)), api.ErrForm)
		}
	}
}

// P15.3: neither how the numbers fit one another is asked, nor whether there are such clients and slots.
func TestGetWhatIsNotAsked(t *testing.T) {
	w := api.World{Slot: 65535, First: 0, View: api.View{Num: 7, Mask: 15}, Was: api.View{Num: 60, Mask: 0xf000}}
	for client := range w.Last {
		w.Last[client] = answer(255-client, 200, 61+client, true, 1)
	}
	putAndGot(t, w, worldBytes(w))
}

// P15.3, P15.4: what is got from any bytes has just these bytes, so that a changed bit makes another world, or none.
func TestGetOfAnyBytes(t *testing.T) {
	r := chance()
	count := map[api.Errno]int{}
	for range 20000 {
		w := anyWorld(r)
		b := worldBytes(w)
		switch r.IntN(3) {
		case 0:
			b[r.IntN(len(b))] ^= 1 << r.IntN(8)
		case 1:
			b = append(b[:r.IntN(len(b))], samples.Text(r, r.IntN(4))...)
		case 2:
			l := textsOf(w)
			i := r.IntN(texts)
			l[i] = samples.Text(r, r.IntN(3)*600)
			b = joined(headOf(w), l)
		}
		got, e := execs.Get(b)
		if count[e]++; e != api.OK {
			refusedGet(t, "any bytes", b, e)
		} else if again := execs.Put(got); !bytes.Equal(again, b) {
			t.Errorf("% x is %v, of which the bytes are % x", b, got, again)
		}
	}
	for _, e := range []api.Errno{api.OK, api.ErrShort, api.ErrForm, api.ErrRange} {
		if count[e] < 100 {
			t.Errorf("%v: just %d times", e, count[e])
		}
	}
	if len(count) != 4 {
		t.Errorf("there are other errors: %v", count)
	}
}
