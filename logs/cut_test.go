package logs_test

import (
	"slices"
	"strconv"
	"strings"
	"testing"

	"consistory/api"
	"consistory/disk"
	"consistory/logs"
	"consistory/samples"
)

// P11.3: behind a cut there are the records that it is to keep, by the next numbers, in a new segment, synced; all older segments are gone.
func TestCut(t *testing.T) {
	for _, c := range []struct {
		what  string
		files []string
		next  uint64
		keep  []string
		name  string
	}{
		{"of no log", nil, 1, []string{"k", "", "l"}, "f.1"},
		{"of one segment", []string{"f.1", run(1, "a", "b")}, 3, []string{"b"}, "f.2"},
		{"of many segments", []string{"f.1", run(1, "a"), "f.2", run(2, "b"), "f.4", run(3, "c")}, 4, []string{"b", "k"}, "f.5"},
		{"of a full segment", []string{"f.1", run(1, sized(full))}, 2, []string{"k"}, "f.2"},
		{"of empty segments", []string{"f.1", "", "f.7", ""}, 1, []string{"k"}, "f.8"},
		{"of great numbers", []string{"f.99999999999999999999", run(1<<63, "a")}, 1<<63 + 1, []string{"k", "l"}, "f.100000000000000000000"},
		{"with great texts", []string{"f.1", run(1, "a")}, 2, []string{"k", strings.Repeat("l", api.MaxText+1)}, "f.2"},
	} {
		d := diskOf(append(c.files, "other", "1")...)
		l, _, e := logs.Open(d, "f")
		samples.Told(t, c.what, api.OK, e, l.Cut(listed(c.keep...)))
		next := c.next + uint64(len(c.keep))
		if l.Next() != next || d.Pending() != 0 {
			t.Errorf("%s: %d, %d pending; want %d", c.what, l.Next(), d.Pending(), next)
		}
		samples.Holds(t, c.what, d, c.name, run(c.next, c.keep...), "other", "1")
		opened(t, c.what, d, next, c.keep...)
	}
}

// P11.3: records go on behind those that were kept, in the same segment, for the log that was cut and for one that is opened.
func TestAppendBehindCut(t *testing.T) {
	d := disk.New(most)
	l := opened(t, "empty", d, 1)
	put(t, l, "a", "b", "c")
	samples.Told(t, "cut", api.OK, l.Cut(listed("b", "c")))
	put(t, l, "d")
	opened(t, "behind", d, 7, "b", "c", "d")
	samples.Holds(t, "behind", d, "f.2", run(4, "b", "c", "d"))
	samples.Told(t, "cut", api.OK, l.Cut(listed("d")))
	l = opened(t, "again", d, 8, "d")
	put(t, l, "e")
	samples.Holds(t, "again", d, "f.3", run(7, "d", "e"))
}

// P11.3: of no records a new segment is begun too; the next record has the number that it was to have.
func TestCutOfAll(t *testing.T) {
	for _, keep := range [][][]byte{nil, {}} {
		d := diskOf("f.1", run(1, "a"), "f.2", run(2, "b"))
		l := opened(t, "ahead", d, 3, "a", "b")
		samples.Told(t, "cut", api.OK, l.Cut(keep))
		samples.Holds(t, "cut", d, "f.3", "")
		if l.Next() != 3 || d.Pending() != 0 {
			t.Error(l.Next(), d.Pending())
		}
		opened(t, "none is found", d, 1)
		put(t, l, "c", "d")
		samples.Holds(t, "behind", d, "f.3", run(3, "c", "d"))
		opened(t, "behind", d, 5, "c", "d")
		samples.Told(t, "cut", api.OK, l.Cut(keep), l.Cut(keep))
		samples.Holds(t, "cut again", d, "f.5", "")
	}
}

// P11.3: also of those that are kept none goes into a segment that has 2048 bytes or more.
func TestCutOfMany(t *testing.T) {
	d := diskOf("f.1", run(1, "a"), "f.2", run(2, "b"))
	l := opened(t, "ahead", d, 3, "a", "b")
	keep := []string{sized(full - 1), "c", "d", sized(full), "e"}
	samples.Told(t, "cut", api.OK, l.Cut(listed(keep...)))
	samples.Holds(t, "cut", d, "f.3", run(3, keep[:2]...), "f.4", run(5, keep[2:4]...), "f.5", run(7, "e"))
	if d.Pending() != 0 {
		t.Error(d.Pending())
	}
	opened(t, "cut", d, 8, keep...)
	put(t, l, "f")
	samples.Told(t, "cut", api.OK, l.Cut(listed("g")))
	samples.Holds(t, "cut again", d, "f.6", run(9, "g"))
}

// cutting are the things that a cut to "k" and "l" does to a disk with those files, in their order.
func cutting(d *disk.Disk) []func() {
	sync := d.Sync
	return []func(){
		func() { d.Append("f.11", []byte(run(5, "k"))) },
		func() { d.Append("f.11", []byte(run(6, "l"))) }, sync,
		func() { d.Delete("f.2") }, sync,
		func() { d.Delete("f.9") }, sync,
		func() { d.Delete("f.10") }, sync,
	}
}

// P11.3: the new segment is synced ahead of the deletions, which come by rising numbers, each with a sync behind it; where the disk goes down among them that is told.
func TestCutsInOrder(t *testing.T) {
	files := []string{"a.1", "other", "f.2", run(1, "a"), "f.9", run(2, "b"), "f.10", run(3, "c", "d"), "g.11", "other"}
	all := len(cutting(nil))
	for n := range all + 3 {
		d, like := diskOf(files...), diskOf(files...)
		d.Append("x", []byte("pending"))
		like.Append("x", []byte("pending"))
		l := opened(t, "ahead", d, 5, "a", "b", "c", "d")
		d.Fuse(n)
		for _, do := range cutting(like)[:min(n, all)] {
			do()
		}
		want := api.OK
		if n < all {
			want = api.ErrDown
		}
		samples.Told(t, strconv.Itoa(n)+" things", want, l.Cut(listed("k", "l")))
		if next := 5 + uint64(min(n, 2)); l.Next() != next {
			t.Errorf("%d things: then %d; want %d", n, l.Next(), next)
		}
		if got, want := samples.State(d), samples.State(like); got != want || d.Down() != (n < all) {
			t.Errorf("%d things: down: %v, %s; want %s", n, d.Down(), got, want)
		}
	}
}

// P11.3: on a disk that is down nothing is cut; what is kept doesn't matter.
func TestCutDown(t *testing.T) {
	for _, keep := range [][]string{nil, {"k"}, {"k", "l"}} {
		d := diskOf("f.1", run(1, "a"), "f.2", run(2, "b"))
		l := opened(t, "ahead", d, 3, "a", "b")
		d.Fuse(0)
		before := samples.State(d)
		samples.Told(t, "down", api.ErrDown, l.Cut(listed(keep...)), l.Cut(listed(keep...)))
		if l.Next() != 3 || samples.State(d) != before {
			t.Errorf("%d, %s", l.Next(), samples.State(d))
		}
	}
	d := disk.New(most)
	l := opened(t, "empty", d, 1)
	d.Fuse(1)
	samples.Told(t, "it can't be synced", api.ErrDown, l.Cut(listed("k")))
	samples.Holds(t, "it can't be synced", samples.After(d, samples.Keeping(0)))
}

// P11.3: where there is no room for the new segment nothing is deleted, and what was put of it stays: the next record goes behind that.
func TestCutFull(t *testing.T) {
	keep := []string{"k", "l", "longer", "m"}
	for good := range keep {
		d := disk.New(len(run(1, "a", "b")) + len(run(3, keep[:good]...)) + 3)
		l := opened(t, "empty", d, 1)
		put(t, l, "a", "b")
		l.Sync()
		samples.Told(t, "no room", api.ErrFull, l.Cut(listed(keep...)))
		if l.Next() != uint64(3+good) || d.Pending() != good {
			t.Errorf("%d, %d pending; want %d, %d", l.Next(), d.Pending(), 3+good, good)
		}
		files := []string{"f.1", run(1, "a", "b")}
		if good > 0 {
			files = append(files, "f.2", run(3, keep[:good]...))
		}
		samples.Holds(t, "no room", d, files...)
		opened(t, "no room", d, uint64(3+good), slices.Concat([]string{"a", "b"}, keep[:good])...)
	}
}

// P11.3: a cut that put nothing leaves the log as it was; behind one that put something the log goes on, and can be cut again.
func TestBehindCutFull(t *testing.T) {
	d := disk.New(100)
	l := opened(t, "empty", d, 1)
	put(t, l, "a", "b")
	samples.Told(t, "no room for any", api.ErrFull, l.Cut(listed(strings.Repeat("x", 80), "k")))
	put(t, l, "c")
	samples.Holds(t, "it was never begun", d, "f.1", run(1, "a", "b", "c"))
	samples.Told(t, "no room for all", api.ErrFull, l.Cut(listed("k", strings.Repeat("x", 80))))
	put(t, l, "d")
	samples.Holds(t, "it was begun", d, "f.1", run(1, "a", "b", "c"), "f.2", run(4, "k", "d"))
	opened(t, "it was begun", d, 6, "a", "b", "c", "k", "d")
	samples.Told(t, "room for all", api.OK, l.Cut(listed("d", "e")))
	samples.Holds(t, "cut", d, "f.3", run(6, "d", "e"))
}

// P11.3: where no file can have the new segment's name, that is told, and nothing is changed.
func TestCutWithoutName(t *testing.T) {
	name := "longname." + strings.Repeat("9", 15)
	for _, keep := range [][]string{nil, {"k"}, {"k", "l"}} {
		d := diskOf(name, run(1, "a"))
		l, _, _ := logs.Open(d, "longname")
		before := samples.State(d)
		samples.Told(t, "no such name", api.ErrArg, l.Cut(listed(keep...)))
		if l.Next() != 2 || samples.State(d) != before {
			t.Errorf("%d, %s", l.Next(), samples.State(d))
		}
	}
}
