package disk_test

import (
	"math"
	"testing"

	"consistory/api"
	"consistory/disk"
	"consistory/samples"
)

// things are one of each sort of things that a fuse counts, which a disk with a file a and room does; a sync answers nothing.
func things(d *disk.Disk) []func() api.Errno {
	return []func() api.Errno{
		func() api.Errno { return d.Append("a", []byte("2")) },
		func() api.Errno { return d.Write("b", []byte("3")) },
		func() api.Errno { return d.Rename("b", "c") },
		func() api.Errno { d.Sync(); return api.OK },
		func() api.Errno { return d.Delete("c") },
	}
}

// P10.2: a fuse lets just n things be done, of whatever sort; the next one isn't done any more, and takes the disk down.
func TestFuseCounts(t *testing.T) {
	for n := range 6 {
		d, like := disk.New(100), disk.New(100)
		samples.Told(t, "ahead", api.OK, d.Append("a", []byte("1")), like.Append("a", []byte("1")))
		d.Fuse(n)
		do, doLike := things(d), things(like)
		for i := range n {
			if i < len(do) {
				samples.Told(t, "within the fuse", doLike[i](), do[i]())
			}
		}
		if d.Down() || samples.Files(d) != samples.Files(like) || d.Pending() != like.Pending() {
			t.Errorf("%d: %v %s %d", n, d.Down(), samples.Files(d), d.Pending())
		}
		if n == 3 {
			d.Sync()
		} else {
			samples.Told(t, "beyond the fuse", api.ErrDown, d.Append("a", []byte("4")))
		}
		if !d.Down() || samples.Files(d) != samples.Files(like) || d.Pending() != like.Pending() {
			t.Errorf("%d: beyond: %v %s %d; want %s %d", n, d.Down(), samples.Files(d), d.Pending(), samples.Files(like), like.Pending())
		}
	}
}

// P10.2: whatever sort of thing comes behind the fuse takes the disk down, and isn't done.
func TestFuseBlowsByEach(t *testing.T) {
	for i := range things(nil) {
		d := disk.New(100)
		samples.Told(t, "ahead", api.OK, d.Append("a", []byte("1")), d.Append("b", []byte("1")), d.Append("c", []byte("1")))
		before := samples.Files(d)
		d.Fuse(0)
		if d.Down() {
			t.Error("it is down by the fuse alone")
		}
		want := api.ErrDown
		if i == 3 {
			want = api.OK
		}
		samples.Told(t, "beyond the fuse", want, things(d)[i]())
		if !d.Down() || samples.Files(d) != before || d.Pending() != 3 {
			t.Errorf("%d: %v %s %d", i, d.Down(), samples.Files(d), d.Pending())
		}
		d.Crash(samples.Keeping(0))
		samples.Holds(t, "nothing was synced", d)
	}
}

// P10.2: a fuse doesn't count what is refused, nor what only asks; and that doesn't take the disk down.
func TestFuseCountsNothingElse(t *testing.T) {
	d := disk.New(3)
	samples.Told(t, "ahead", api.OK, d.Append("a", []byte("1")))
	others := []func() api.Errno{
		func() api.Errno { return d.Append("", nil) },
		func() api.Errno { return d.Append("a", []byte("234")) },
		func() api.Errno { return d.Write("", nil) },
		func() api.Errno { return d.Write("b", []byte("234")) },
		func() api.Errno { return d.Rename("a", "") },
		func() api.Errno { return d.Rename("x", "a") },
		func() api.Errno { return d.Delete("") },
		func() api.Errno { return d.Delete("x") },
		func() api.Errno { _, e := d.Read("x"); return e },
		func() api.Errno {
			d.Read("a")
			d.Names()
			d.Pending()
			d.Down()
			d.Copy()
			return api.ErrArg
		},
	}
	errors := []api.Errno{api.ErrArg, api.ErrFull, api.ErrArg, api.ErrFull, api.ErrArg, api.ErrNone, api.ErrArg, api.ErrNone, api.ErrNone, api.ErrArg}
	d.Fuse(2)
	for left := 2; left >= 0; left-- {
		for range 3 {
			for i, call := range others {
				refused(t, "it isn't counted", d, errors[i], call)
			}
		}
		if left > 0 {
			samples.Told(t, "counted", api.OK, d.Append("a", nil))
		}
	}
	samples.Told(t, "counted", api.ErrDown, d.Append("a", nil))
	if !d.Down() {
		t.Error("it isn't down")
	}
}

// P10.2: a disk that is down does nothing till a crash, and tells ErrDown ahead of other errors; what is there can be read.
func TestDown(t *testing.T) {
	d := disk.New(3)
	samples.Told(t, "ahead", api.OK, d.Append("b", []byte("2")))
	d.Sync()
	samples.Told(t, "ahead", api.OK, d.Append("a", []byte("1")))
	d.Fuse(0)
	samples.Told(t, "beyond the fuse", api.ErrDown, d.Delete("b"))
	refused(t, "down", d, api.ErrDown,
		func() api.Errno { return d.Append("a", nil) },
		func() api.Errno { return d.Append("a", []byte("2345")) },
		func() api.Errno { return d.Append("", nil) },
		func() api.Errno { return d.Write("a", nil) },
		func() api.Errno { return d.Write("a", []byte("2345")) },
		func() api.Errno { return d.Write("", nil) },
		func() api.Errno { return d.Rename("a", "b") },
		func() api.Errno { return d.Rename("a", "") },
		func() api.Errno { return d.Rename("x", "a") },
		func() api.Errno { return d.Delete("a") },
		func() api.Errno { return d.Delete("") },
		func() api.Errno { return d.Delete("x") },
		func() api.Errno { d.Sync(); return api.ErrDown },
		func() api.Errno { d.Fuse(5); return api.ErrDown },
		func() api.Errno { d.Fuse(-1); return api.ErrDown },
	)
	samples.Holds(t, "down", d, "a", "1", "b", "2")
	if _, e := d.Read("x"); e != api.ErrNone || d.Pending() != 1 {
		t.Error(e, d.Pending())
	}
	d.Crash(samples.Keeping(0))
	samples.Holds(t, "what was synced alone", d, "b", "2")
}

// P10.2: behind a crash the disk runs, and has no fuse: neither the one that blew nor one that was left.
func TestCrashTakesFuse(t *testing.T) {
	for _, n := range []int{0, 1, 2, 5} {
		d := disk.New(1000)
		d.Fuse(n)
		d.Append("a", []byte("1"))
		d.Append("a", []byte("2"))
		if d.Down() != (n < 2) {
			t.Error(n, d.Down())
		}
		d.Crash(samples.Keeping(math.MaxUint64))
		if d.Down() || d.Pending() != 0 {
			t.Error(n, d.Down(), d.Pending())
		}
		samples.Holds(t, "what was done", d, [][]string{nil, {"a", "1"}, {"a", "12"}}[min(n, 2)]...)
		for range 20 {
			samples.Told(t, "no fuse", api.OK, d.Append("b", []byte("3")))
			d.Sync()
		}
	}
}

// P10.2: a fuse takes the place of the one that is there; below 0 there is none any more.
func TestFuseAnew(t *testing.T) {
	for _, n := range []int{-1, -2, math.MinInt} {
		d := disk.New(1000)
		d.Fuse(0)
		d.Fuse(n)
		for range 20 {
			samples.Told(t, "no fuse", api.OK, d.Append("b", []byte("3")))
		}
	}
	d := disk.New(1000)
	d.Fuse(0)
	d.Fuse(math.MaxInt)
	for range 20 {
		samples.Told(t, "a long fuse", api.OK, d.Append("b", []byte("3")))
	}
	d.Fuse(2)
	samples.Told(t, "another fuse", api.OK, d.Append("b", nil))
	d.Fuse(2)
	samples.Told(t, "another fuse", api.OK, d.Append("b", nil), d.Append("b", nil))
	samples.Told(t, "beyond the fuse", api.ErrDown, d.Append("b", nil))
}

// P10.2: a disk of which a sync came behind the fuse hasn't synced.
func TestFuseAheadOfSync(t *testing.T) {
	d := disk.New(100)
	d.Fuse(1)
	samples.Told(t, "ahead", api.OK, d.Append("a", []byte("1")))
	d.Sync()
	if !d.Down() || d.Pending() != 1 {
		t.Error(d.Down(), d.Pending())
	}
	d.Sync()
	c := d.Copy()
	d.Crash(samples.Keeping(0))
	samples.Holds(t, "it wasn't synced", d)
	c.Crash(samples.Keeping(1))
	samples.Holds(t, "but may have been kept", c, "a", "1")
}
