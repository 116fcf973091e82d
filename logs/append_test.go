package logs_test

import (
	"slices"
	"strconv"
	"strings"
	"testing"

	"consistory/api"
	"consistory/disk"
	"consistory/logs"
	"consistory/samples"
)

// P11.2: records stand one behind the other by rising numbers, and all that is put is pending till a sync.
func TestAppend(t *testing.T) {
	d := disk.New(most)
	l := opened(t, "empty", d, 1)
	texts := []string{"a", "", "a", "\x00", strings.Repeat("x", 300)}
	for i, text := range texts {
		put(t, l, text)
		if l.Next() != uint64(i+2) || d.Pending() != i+1 {
			t.Errorf("%d: then %d, %d pending", i, l.Next(), d.Pending())
		}
		samples.Holds(t, "put", d, "f.1", run(1, texts[:i+1]...))
	}
	samples.Holds(t, "none is synced", samples.After(d, samples.Keeping(0)))
	l.Sync()
	if d.Pending() != 0 {
		t.Error(d.Pending())
	}
	samples.Holds(t, "all are synced", samples.After(d, samples.Keeping(0)), "f.1", run(1, texts...))
	put(t, l, "b")
	opened(t, "behind the sync", samples.After(d, samples.Keeping(0)), 6, texts...)
	opened(t, "behind the sync", d, 7, append(texts, "b")...)
}

// P11.2: a log that was opened goes on where the last one ended, in its last segment.
func TestAppendGoesOn(t *testing.T) {
	for _, c := range []struct {
		what  string
		files []string
		next  uint64
		name  string
		bytes string
	}{
		{"one segment", []string{"f.1", run(1, "a")}, 2, "f.1", run(1, "a", "new")},
		{"many segments", []string{"f.1", run(1, "a"), "f.2", run(2, "b")}, 3, "f.2", run(2, "b", "new")},
		{"a great number", []string{"f.1", run(300, "a")}, 301, "f.1", run(300, "a", "new")},
		{"a later segment", []string{"f.9", run(3, "a"), "f.10", run(4, "b")}, 5, "f.10", run(4, "b", "new")},
		{"an empty segment", []string{"f.4", ""}, 1, "f.4", run(1, "new")},
		{"an empty last segment", []string{"f.4", run(1, "a"), "f.7", ""}, 2, "f.7", run(2, "new")},
		{"a mended segment", []string{"f.1", run(1, "a") + "x", "f.2", run(2, "b")}, 2, "f.1", run(1, "a", "new")},
		{"a mended segment with nothing", []string{"f.1", run(1, "a"), "f.2", "x"}, 2, "f.2", run(2, "new")},
		{"a mended segment that was full", []string{"f.1", run(1, "a") + strings.Repeat("x", full)}, 2, "f.1", run(1, "a", "new")},
	} {
		d := diskOf(c.files...)
		l, _, e := logs.Open(d, "f")
		samples.Told(t, c.what, api.OK, e)
		put(t, l, "new")
		b, e := d.Read(c.name)
		if e != api.OK || string(b) != c.bytes || l.Next() != c.next+1 {
			t.Errorf("%s: %q, %v, and then %d; want %q", c.what, b, e, l.Next(), c.bytes)
		}
	}
}

// P11.2: a segment that has 2048 bytes or more gets no further record, one that has fewer does, whether it was found or put so.
func TestFullSegments(t *testing.T) {
	for _, size := range []int{full - 1, full, full + 1, full + 500, 9000} {
		for _, again := range []bool{false, true} {
			d := disk.New(most)
			l := opened(t, "empty", d, 1)
			put(t, l, "a", sized(size-len(record(1, "a"))))
			if b, _ := d.Read("f.1"); len(b) != size {
				t.Fatalf("%d bytes; want %d", len(b), size)
			}
			if again {
				l = opened(t, "again", d, 3, "a", sized(size-len(record(1, "a"))))
			}
			put(t, l, "b", "c")
			first := run(1, "a", sized(size-len(record(1, "a"))))
			if size < full {
				samples.Holds(t, strconv.Itoa(size), d, "f.1", first+record(3, "b"), "f.2", record(4, "c"))
			} else {
				samples.Holds(t, strconv.Itoa(size), d, "f.1", first, "f.2", run(3, "b", "c"))
			}
		}
	}
}

// P11.2: of many records each segment has as many as go into it, and its number has no noughts ahead.
func TestManySegments(t *testing.T) {
	d := disk.New(most)
	l := opened(t, "empty", d, 1)
	var texts, want []string
	segment, bytes, number := 1, "", uint64(1)
	for n := range 400 {
		text := strings.Repeat(strconv.Itoa(n%10), n%220)
		put(t, l, text)
		texts = append(texts, text)
		if len(bytes) >= full {
			want = append(want, "f."+strconv.Itoa(segment), bytes)
			segment, bytes = segment+1, ""
		}
		bytes += record(number, text)
		number++
	}
	if segment < 12 {
		t.Error("there are too few:", segment)
	}
	samples.Holds(t, "many", d, append(want, "f."+strconv.Itoa(segment), bytes)...)
	opened(t, "many", d, 401, texts...)
}

// P11.2: the segment behind the one with the greatest number has one more, of however many digits.
func TestNextSegment(t *testing.T) {
	for _, c := range [][2]string{{"1", "2"}, {"8", "9"}, {"9", "10"}, {"19", "20"}, {"99", "100"}, {"109", "110"}, {"999999", "1000000"}, {"9223372036854775807", "9223372036854775808"}, {"18446744073709551615", "18446744073709551616"}, {"99999999999999999999", "100000000000000000000"}, {"8999999999999999999999", "9000000000000000000000"}} {
		d := diskOf("f."+c[0], run(1, sized(full)))
		l := opened(t, c[0], d, 2, sized(full))
		put(t, l, "a", "b")
		samples.Holds(t, c[0], d, "f."+c[0], run(1, sized(full)), "f."+c[1], run(2, "a", "b"))
		opened(t, c[1], d, 4, sized(full), "a", "b")
	}
}

// P11.2: what the disk refuses isn't put, is told by the disk's error, and changes nothing; what fits still goes on.
func TestAppendRefuses(t *testing.T) {
	d := disk.New(len(run(1, "a", "b", "c")))
	l := opened(t, "empty", d, 1)
	put(t, l, "a")
	before := samples.State(d)
	for _, text := range []string{"long" + run(1, "b"), strings.Repeat("x", 100), strings.Repeat("x", api.MaxText+1)} {
		samples.Told(t, "no room", api.ErrFull, l.Append([]byte(text)))
		if l.Next() != 2 || samples.State(d) != before {
			t.Errorf("%d, %s", l.Next(), samples.State(d))
		}
	}
	put(t, l, "b", "c")
	samples.Told(t, "no room", api.ErrFull, l.Append(nil))
	opened(t, "what fits", d, 4, "a", "b", "c")

	d.Fuse(0)
	d.Sync()
	l = opened(t, "down", d, 4, "a", "b", "c")
	before = samples.State(d)
	samples.Told(t, "down", api.ErrDown, l.Append(nil), l.Append([]byte("long")), l.Append(nil))
	if l.Next() != 4 || samples.State(d) != before {
		t.Errorf("%d, %s", l.Next(), samples.State(d))
	}

	name := "longname." + strings.Repeat("9", 15)
	d = diskOf(name, run(1, sized(full)))
	l, _, _ = logs.Open(d, "longname")
	samples.Told(t, "no such name", api.ErrArg, l.Append(nil), l.Append(nil))
	if l.Next() != 2 {
		t.Error(l.Next())
	}
	samples.Holds(t, "no such name", d, name, run(1, sized(full)))
}

// P11.2: what didn't fit into a new segment didn't begin it: the next record finds the log as it was.
func TestRefusedBeginsNoSegment(t *testing.T) {
	d := disk.New(full + 100)
	l := opened(t, "empty", d, 1)
	put(t, l, sized(full))
	for range 3 {
		samples.Told(t, "no room", api.ErrFull, l.Append(make([]byte, 100)))
	}
	samples.Holds(t, "no room", d, "f.1", run(1, sized(full)))
	put(t, l, "a")
	samples.Holds(t, "room", d, "f.1", run(1, sized(full)), "f.2", run(2, "a"))

	d = disk.New(full + 100)
	l = opened(t, "empty", d, 1)
	put(t, l, sized(full))
	samples.Told(t, "no room", api.ErrFull, l.Append(make([]byte, 100)))
	samples.Told(t, "cut", api.OK, l.Cut(listed("a")))
	samples.Holds(t, "cut", d, "f.2", run(2, "a"))
}

// P11.2: a text may have any number of bytes for which the disk has room, and is found again.
func TestTextsOfAllSizes(t *testing.T) {
	r := chance()
	for _, n := range []int{0, 1, 2, 127, 128, 129, 2000, 2047, 2048, 16383, 16384, api.MaxText - 1, api.MaxText, api.MaxText + 1, 300000, most - 12} {
		text := string(samples.Text(r, n))
		d := disk.New(most)
		put(t, opened(t, "empty", d, 1), text)
		opened(t, strconv.Itoa(n), d, 2, text)
		samples.Holds(t, strconv.Itoa(n), d, "f.1", run(1, text))
	}
	l := opened(t, "empty", disk.New(most), 1)
	samples.Told(t, "a byte too many", api.ErrFull, l.Append(make([]byte, most-11)))
}

// P11.2: a sync is the disk's: all that is pending on it is synced, and it counts for a fuse.
func TestSync(t *testing.T) {
	d := disk.New(most)
	l := opened(t, "empty", d, 1)
	put(t, l, "a")
	samples.Told(t, "another file", api.OK, d.Append("other", []byte("1")))
	d.Fuse(1)
	l.Sync()
	if d.Pending() != 0 || d.Down() {
		t.Error(d.Pending(), d.Down())
	}
	samples.Holds(t, "synced", samples.After(d, samples.Keeping(0)), "f.1", run(1, "a"), "other", "1")
	l.Sync()
	if !d.Down() {
		t.Error("a sync of nothing doesn't count")
	}
	d.Crash(samples.Keeping(0))
	put(t, l, "b")
	d.Fuse(0)
	l.Sync()
	if !d.Down() || d.Pending() != 1 {
		t.Error(d.Down(), d.Pending())
	}
}

// Two logs on one disk have nothing to do with each other, though one's prefix begins the other's.
func TestTwoLogs(t *testing.T) {
	d := disk.New(most)
	f := opened(t, "empty", d, 1)
	ff, _, _ := logs.Open(d, "ff")
	for _, text := range []string{"a", sized(full), "b"} {
		put(t, f, text)
		put(t, ff, "other "+text, "and")
	}
	samples.Told(t, "cut", api.OK, ff.Cut(listed("kept")))
	samples.Told(t, "wrong", api.OK, d.Append("ff.3", []byte("x")))
	if _, texts, e := logs.Open(d, "ff"); e != api.OK || !same(texts, []string{"kept"}) {
		t.Error(texts, e)
	}
	opened(t, "beside another", d, 4, "a", sized(full), "b")
	samples.Told(t, "cut", api.OK, f.Cut(nil))
	if _, texts, e := logs.Open(d, "ff"); e != api.OK || !same(texts, []string{"kept"}) || !slices.Equal(d.Names(), []string{"f.3", "ff.3"}) {
		t.Error(texts, e, d.Names())
	}
}
