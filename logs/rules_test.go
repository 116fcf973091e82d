package logs_test

import (
	"math"
	"math/rand/v2"
	"slices"
	"strconv"
	"strings"
	"sync"
	"testing"
	"unsafe"

	"consistory/api"
	"consistory/disk"
	"consistory/logs"
	"consistory/samples"
)

// R2: of a nil disk and a wrong prefix the first is told; what the disk would refuse too is told by the disk alone.
func TestFirstError(t *testing.T) {
	refused(t, "both", nil, "A", api.ErrNil)
	d := diskOf("f.1", "wrong")
	d.Fuse(0)
	d.Sync()
	refused(t, "a prefix on a disk that is down", d, "A", api.ErrArg)
	refused(t, "down", d, "f", api.ErrDown)
}

// R3: nil and nothing are one, as a text, as what is kept and within it.
func TestNilIsNothing(t *testing.T) {
	c, d := disk.New(most), disk.New(most)
	k, l := opened(t, "nil", c, 1), opened(t, "nothing", d, 1)
	samples.Told(t, "nil", api.OK, k.Append(nil), k.Cut([][]byte{nil, {}}), k.Append(nil), k.Cut(nil))
	samples.Told(t, "nothing", api.OK, l.Append([]byte{}), l.Cut([][]byte{{}, nil}), l.Append([]byte{}), l.Cut([][]byte{}))
	if a, b := samples.State(c), samples.State(d); a != b || k.Next() != l.Next() {
		t.Errorf("%s, then %d; want %s, then %d", a, k.Next(), b, l.Next())
	}
}

// R4: texts that are handed in aren't changed, spare room included, nor kept: what is put doesn't change with them.
func TestTextsStay(t *testing.T) {
	d, like := disk.New(most), disk.New(most)
	l, m := opened(t, "empty", d, 1), opened(t, "empty", like, 1)
	texts := listed("a", "", "third")
	view, stays := samples.RoomyTexts(texts)
	samples.Told(t, "put", api.OK, l.Append(view[0]), l.Cut(view), l.Append(view[2]))
	samples.Told(t, "put", api.OK, m.Append(texts[0]), m.Cut(texts), m.Append(texts[2]))
	if !stays() {
		t.Error("they are changed")
	}
	for _, text := range view {
		samples.Spoil(text)
	}
	clear(view[:cap(view)])
	put(t, l, "behind")
	put(t, m, "behind")
	if a, b := samples.State(d), samples.State(like); a != b {
		t.Errorf("%s with the texts; want %s", a, b)
	}
	full := disk.New(12)
	l = opened(t, "empty", full, 1)
	view, stays = samples.RoomyTexts(texts)
	samples.Told(t, "no room", api.ErrFull, l.Cut(view), l.Append(view[2]))
	if !stays() {
		t.Error("they are changed, where there is no room")
	}
}

// R4: the prefix that is handed in isn't kept as it is: whoever has its memory doesn't change the files' names.
func TestPrefixIsNotKept(t *testing.T) {
	prefix := []byte("log")
	d := disk.New(most)
	l, _, e := logs.Open(d, unsafe.String(&prefix[0], len(prefix)))
	samples.Told(t, "open", api.OK, e)
	samples.Spoil(prefix)
	samples.Told(t, "put", api.OK, l.Append([]byte("a")), l.Cut(listed("b")), l.Append([]byte("c")))
	samples.Holds(t, "its name", d, "log.2", run(2, "b", "c"))
}

// R4: texts that are answered are new memory: they share none with each other, with the log, with the disk, or with earlier answers.
func TestFoundIsNew(t *testing.T) {
	texts := []string{"a", "", strings.Repeat("x", 1500), "b", strings.Repeat("y", 1500), "c"}
	d := disk.New(most)
	put(t, opened(t, "empty", d, 1), texts...)
	for range 3 {
		l, found, _ := logs.Open(d, "f")
		_, again, _ := logs.Open(d, "f")
		if !samples.Apart(found) {
			t.Error("texts share memory")
		}
		clear(found[:cap(found)])
		if !same(again, texts) {
			t.Error("they change with another answer")
		}
		opened(t, "they don't change the disk", d, uint64(len(texts)+1), texts...)
		put(t, l, "d")
		texts = append(texts, "d")
		if !same(again, texts[:len(texts)-1]) {
			t.Error("they change with what is put")
		}
	}
}

// R5: what a log answers hangs on what it and its disk have been through alone, not on others beside it.
func TestSameAgain(t *testing.T) {
	var states [4]string
	var w sync.WaitGroup
	for i := range states {
		w.Go(func() {
			r := chance()
			for range 10 {
				s := &session{d: disk.New(most)}
				s.open(t, "beside others")
				for range 60 {
					s.step(r)
				}
				s.d.Crash(samples.AnyPlan(r))
				s.open(t, "beside others")
				states[i] += samples.State(s.d) + strconv.FormatUint(s.l.Next(), 10)
			}
		})
	}
	w.Wait()
	for _, state := range states {
		if state != states[0] {
			t.Error("of one and the same sessions two are unlike")
		}
	}
}

// anySegment is bytes that may be a log's, or nearly.
func anySegment(r *rand.Rand) []byte {
	numbers := []uint64{0, 1, 2, 3, 127, 128, 1<<63 - 1, 1 << 63, highest - 1, highest}
	var s string
	for number := numbers[r.IntN(len(numbers))]; r.IntN(4) > 0; number++ {
		s += record(number, strings.Repeat("x", r.IntN(900)))
	}
	switch b := []byte(s); r.IntN(4) {
	case 0:
		return append(b, samples.Text(r, r.IntN(60))...)
	case 1:
		return b[:r.IntN(len(b)+1)]
	case 2:
		if len(b) > 0 {
			b[r.IntN(len(b))] ^= 1 << r.IntN(8)
		}
		return b
	default:
		return b
	}
}

// R1: every call ends and none panics, whatever there is on the disk; and what was found once is found again.
func TestNeverPanics(t *testing.T) {
	r := chance()
	names := []string{"f.1", "f.2", "f.3", "f.9", "f.10", "f.99", "f.18446744073709551615", "f.18446744073709551616", "f.9999999999999999999999", "f.0", "f.01", "f.", "f", "f.tmp", "f.x", "f.1.2"}
	for range 3000 {
		d := disk.New(r.IntN(9000))
		for range r.IntN(6) {
			d.Write(names[r.IntN(len(names))], anySegment(r))
		}
		if r.IntN(5) == 0 {
			d.Fuse(r.IntN(10))
		}
		l, found, e := logs.Open(d, "f")
		if e != api.OK && (e != api.ErrFull && e != api.ErrDown || l != nil || len(found) > 0) {
			t.Fatal(e, l != nil, len(found))
		}
		if e == api.OK {
			again(t, d, l, found)
			anyCalls(l, r)
		}
		logs.Open(d, string(samples.Text(r, r.IntN(10))))
	}
	var l *logs.Log
	anyCalls(l, r)
}

// again checks that a log that was just opened is opened as it was, and that nothing more is mended.
func again(t *testing.T, d *disk.Disk, l *logs.Log, found [][]byte) {
	t.Helper()
	before := samples.State(d)
	m, texts, e := logs.Open(d, "f")
	if e != api.OK || m.Next() != l.Next() || !slices.EqualFunc(texts, found, slices.Equal) || samples.State(d) != before {
		t.Fatalf("%v: what was mended isn't right", e)
	}
}

// anyCalls asks a log for all that one may be asked for.
func anyCalls(l *logs.Log, r *rand.Rand) {
	for range 8 {
		l.Append(samples.Text(r, r.IntN(900)))
		l.Next()
		switch r.IntN(5) {
		case 0:
			l.Sync()
		case 1:
			l.Cut(samples.Texts(r, r.IntN(3000), 0, r.IntN(9)))
		case 2:
			l.Cut(nil)
		case 3:
			l.Append(nil)
		}
	}
}

// R1: a text for which no disk has room is refused, as any other.
func TestGreatTexts(t *testing.T) {
	l := opened(t, "empty", disk.New(math.MaxInt), 1)
	great := make([]byte, 1<<24)
	samples.Told(t, "great", api.ErrFull, l.Append(great), l.Cut([][]byte{great}))
	put(t, l, "a")
}
