package disk_test

import (
	"math"
	"slices"
	"strings"
	"testing"

	"consistory/api"
	"consistory/disk"
	"consistory/samples"
)

// P10.1: a new disk has nothing.
func TestNew(t *testing.T) {
	d := disk.New(10)
	samples.Holds(t, "new", d)
	if d.Pending() != 0 || d.Down() {
		t.Error(d.Pending(), d.Down())
	}
}

// P10.1: what is appended stands behind what the file has; a file that isn't there is made, even of nothing.
func TestAppend(t *testing.T) {
	d := disk.New(100)
	samples.Told(t, "append", api.OK, d.Append("b", []byte("one")), d.Append("a", nil), d.Append("b", []byte{}), d.Append("b", []byte("two\x00")))
	samples.Holds(t, "append", d, "a", "", "b", "onetwo\x00")
	if d.Pending() != 4 {
		t.Error(d.Pending())
	}
}

// P10.1: what is written stands in the place of what the file has; a file that isn't there is made, even of nothing.
func TestWrite(t *testing.T) {
	d := disk.New(100)
	samples.Told(t, "write", api.OK, d.Write("b", []byte("one")), d.Write("a", nil), d.Write("c", []byte("three")), d.Write("b", []byte("four")), d.Write("c", []byte{}))
	samples.Holds(t, "write", d, "a", "", "b", "four", "c", "")
	samples.Told(t, "append", api.OK, d.Append("b", []byte("five")), d.Append("c", []byte("six")))
	samples.Holds(t, "append", d, "a", "", "b", "fourfive", "c", "six")
	if d.Pending() != 7 {
		t.Error(d.Pending())
	}
}

// P10.1: a file that is renamed has its bytes, and takes the place of a file that had the name; by its own name it stays.
func TestRename(t *testing.T) {
	d := disk.New(100)
	samples.Told(t, "write", api.OK, d.Write("a", []byte("1")), d.Write("b", []byte("22")), d.Write("c", nil))
	samples.Told(t, "rename", api.OK, d.Rename("a", "d"))
	samples.Holds(t, "to another name", d, "b", "22", "c", "", "d", "1")
	samples.Told(t, "rename", api.OK, d.Rename("d", "b"))
	samples.Holds(t, "to a file's name", d, "b", "1", "c", "")
	samples.Told(t, "rename", api.OK, d.Rename("b", "b"), d.Rename("c", "b"))
	samples.Holds(t, "to its own name", d, "b", "")
	if d.Pending() != 7 {
		t.Error(d.Pending())
	}
	samples.Told(t, "append", api.OK, d.Append("b", []byte("3")), d.Rename("b", "e"), d.Append("b", []byte("4")), d.Append("e", []byte("5")))
	samples.Holds(t, "and the old name anew", d, "b", "4", "e", "35")
}

// P10.1: a file that is deleted is gone, and is made anew with nothing.
func TestDelete(t *testing.T) {
	d := disk.New(100)
	samples.Told(t, "write", api.OK, d.Write("a", []byte("1")), d.Write("b", nil), d.Write("c", []byte("3")))
	samples.Told(t, "delete", api.OK, d.Delete("a"), d.Delete("b"))
	samples.Holds(t, "delete", d, "c", "3")
	samples.Told(t, "append", api.OK, d.Append("a", []byte("4")))
	samples.Holds(t, "anew", d, "a", "4", "c", "3")
	if d.Pending() != 6 {
		t.Error(d.Pending())
	}
}

// P10.1: each name of 1 to 24 bytes may be a file's, whatever the bytes.
func TestRightNames(t *testing.T) {
	d := disk.New(1000)
	var want []string
	for i, name := range rightNames() {
		samples.Told(t, name, api.OK, d.Append(name, []byte{byte(i)}), d.Rename(name, "x"), d.Write("x", []byte{byte(i), 7}), d.Rename("x", name))
		samples.Told(t, name, api.OK, d.Write("y", nil), d.Delete("y"))
		want = append(want, name)
	}
	slices.Sort(want)
	if l := d.Names(); !slices.Equal(l, want) {
		t.Errorf("%q; want %q", l, want)
	}
	for i, name := range rightNames() {
		if b, e := d.Read(name); e != api.OK || string(b) != string([]byte{byte(i), 7}) {
			t.Errorf("%q: %v, %v", name, b, e)
		}
		samples.Told(t, name, api.OK, d.Delete(name))
	}
	samples.Holds(t, "all deleted", d)
}

// P10.1: a name of no bytes, or of more than 24, is none: ErrArg, ahead of ErrFull and ErrNone.
func TestWrongNames(t *testing.T) {
	d := disk.New(3)
	samples.Told(t, "append", api.OK, d.Append("a", []byte("123")))
	for _, name := range wrongNames() {
		refused(t, name, d, api.ErrArg,
			func() api.Errno { return d.Append(name, nil) },
			func() api.Errno { return d.Append(name, []byte("4")) },
			func() api.Errno { return d.Write(name, nil) },
			func() api.Errno { return d.Write(name, []byte("4")) },
			func() api.Errno { return d.Delete(name) },
			func() api.Errno { return d.Rename("a", name) },
			func() api.Errno { return d.Rename(name, "a") },
			func() api.Errno { return d.Rename(name, name) },
			func() api.Errno { return d.Rename("b", name) },
		)
		if b, e := d.Read(name); e != api.ErrNone || len(b) != 0 {
			t.Errorf("%q: %v, %v", name, b, e)
		}
	}
}

// P10.1, P10.2: of a file that isn't there, or isn't any more, nothing can be read, and it can't be renamed or deleted.
func TestNoFile(t *testing.T) {
	d := disk.New(10)
	samples.Told(t, "ahead", api.OK, d.Write("a", nil), d.Write("b", []byte("2")), d.Rename("a", "c"), d.Delete("b"))
	for _, name := range []string{"a", "b", "A", "cc", "c\x00", strings.Repeat("n", longest)} {
		refused(t, name, d, api.ErrNone,
			func() api.Errno { return d.Delete(name) },
			func() api.Errno { return d.Rename(name, "c") },
			func() api.Errno { return d.Rename(name, "x") },
			func() api.Errno { return d.Rename(name, name) },
			func() api.Errno { _, e := d.Read(name); return e },
		)
		if b, _ := d.Read(name); len(b) != 0 {
			t.Errorf("%q: %v", name, b)
		}
	}
	samples.Holds(t, "what is there", d, "c", "")
}

// P10.1: all files' bytes together may be as many as there is room, and no more; what is written over counts no more.
func TestRoom(t *testing.T) {
	d := disk.New(10)
	samples.Told(t, "just room", api.OK, d.Append("a", make([]byte, 3)), d.Write("b", make([]byte, 3)), d.Append("b", make([]byte, 4)), d.Append("c", nil), d.Write("e", nil), d.Append("a", nil))
	refused(t, "a byte too many", d, api.ErrFull,
		func() api.Errno { return d.Append("a", []byte{1}) },
		func() api.Errno { return d.Append("new", []byte{1}) },
		func() api.Errno { return d.Write("a", make([]byte, 4)) },
		func() api.Errno { return d.Write("b", make([]byte, 8)) },
		func() api.Errno { return d.Write("c", []byte{1}) },
		func() api.Errno { return d.Write("new", []byte{1}) },
		func() api.Errno { return d.Write("b", make([]byte, api.MaxDisk+1)) },
	)
	samples.Told(t, "over its own", api.OK, d.Write("b", make([]byte, 7)), d.Write("b", make([]byte, 6)), d.Append("c", []byte{1}))
	refused(t, "full again", d, api.ErrFull, func() api.Errno { return d.Append("c", []byte{1}) })
	samples.Told(t, "one less by deleting", api.OK, d.Delete("c"), d.Append("b", []byte{1}))
	samples.Told(t, "less by renaming over", api.OK, d.Rename("a", "b"), d.Write("c", make([]byte, 7)))
	refused(t, "full anew", d, api.ErrFull, func() api.Errno { return d.Append("b", []byte{1}) })
	samples.Holds(t, "room", d, "b", "\x00\x00\x00", "c", "\x00\x00\x00\x00\x00\x00\x00", "e", "")
}

// P10.1: what is pending, or was synced, takes no room beside what is read.
func TestRoomIsForWhatIsRead(t *testing.T) {
	d := disk.New(4)
	for i := range 20 {
		samples.Told(t, "again", api.OK, d.Write("a", []byte{1, 2, 3, byte(i)}), d.Delete("a"), d.Append("b", []byte{4, 3, 2, byte(i)}))
		if i%3 == 0 {
			d.Sync()
		}
		samples.Told(t, "again", api.OK, d.Rename("b", "c"), d.Delete("c"))
	}
	samples.Holds(t, "nothing", d)
}

// P10.1: the room is held within 0 and MaxDisk.
func TestRoomBounds(t *testing.T) {
	for _, c := range []struct{ room, want int }{{math.MinInt, 0}, {-1, 0}, {0, 0}, {1, 1}, {most - 1, most - 1}, {most, most}, {most + 1, most}, {1 << 32, most}, {math.MaxInt, most}} {
		d := disk.New(c.room)
		samples.Told(t, "just room", api.OK, d.Write("a", make([]byte, c.want)))
		samples.Told(t, "a byte too many", api.ErrFull, d.Append("a", []byte{1}), d.Append("b", []byte{1}), d.Write("a", make([]byte, c.want+1)))
		samples.Told(t, "nothing more", api.OK, d.Append("a", nil), d.Append("b", nil))
		if b, e := d.Read("a"); e != api.OK || len(b) != c.want || d.Pending() != 3 {
			t.Errorf("%d: %d bytes, %v, %d pending", c.room, len(b), e, d.Pending())
		}
	}
}

// P10.1: where a crash leaves more than there is room, it stays, and nothing is put till there is room again.
func TestMoreThanRoom(t *testing.T) {
	d := disk.New(5)
	samples.Told(t, "ahead", api.OK, d.Write("a", []byte("12345")))
	d.Sync()
	samples.Told(t, "pending", api.OK, d.Delete("a"), d.Write("b", []byte("6789")))
	d.Crash(samples.Keeping(2))
	samples.Holds(t, "crash", d, "a", "12345", "b", "6789")
	refused(t, "no room", d, api.ErrFull,
		func() api.Errno { return d.Append("a", nil) },
		func() api.Errno { return d.Append("c", nil) },
		func() api.Errno { return d.Write("a", []byte("12")) },
		func() api.Errno { return d.Write("b", []byte("1")) },
	)
	samples.Told(t, "less", api.OK, d.Write("a", []byte("1")), d.Rename("a", "b"), d.Append("b", []byte("2345")))
	samples.Holds(t, "room again", d, "b", "12345")
}

// P10.2: names are told in the order of their bytes, whatever the order in which they came.
func TestNames(t *testing.T) {
	r := chance()
	for range 50 {
		d := disk.New(1000)
		var want []string
		for range r.IntN(40) {
			b := samples.Text(r, 1+r.IntN(3))
			for i := range b {
				b[i] &= 0x83
			}
			name := string(b)
			samples.Told(t, "append", api.OK, d.Append(name, b))
			if !slices.Contains(want, name) {
				want = append(want, name)
			}
		}
		slices.Sort(want)
		if l := d.Names(); !slices.Equal(l, want) {
			t.Fatalf("%q; want %q", l, want)
		}
	}
}

// P10.2: what has many bytes is read whole.
func TestReadMany(t *testing.T) {
	r := chance()
	d := disk.New(most)
	b := samples.Text(r, most)
	for at := 0; at < most; {
		n := min(1+r.IntN(1<<14), most-at)
		samples.Told(t, "append", api.OK, d.Append("a", b[at:at+n]))
		at += n
		if r.IntN(5) == 0 {
			d.Sync()
		}
	}
	got, e := d.Read("a")
	if e != api.OK || !slices.Equal(got, b) {
		t.Errorf("%d bytes, %v", len(got), e)
	}
	samples.Told(t, "full", api.ErrFull, d.Append("a", []byte{1}), d.Append("b", []byte{1}))
}
