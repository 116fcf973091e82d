package snaps_test

import (
	"slices"
	"strconv"
	"strings"
	"testing"

	"consistory/api"
	"consistory/disk"
	"consistory/samples"
	"consistory/snaps"
)

// The chapter's example, and bytes that another program made.
func TestExample(t *testing.T) {
	d := disk.New(most)
	save(t, d, "s", "")
	b, e := d.Read("s")
	if e != api.OK || len(b) != 9 || b[0] != 0 {
		t.Errorf("% x, %v", b, e)
	}
	samples.Holds(t, "known", d, "s", "\x00"+"\x6e\x34\x0b\x9c\xff\xb3\x7a\x98")
	save(t, d, "s", "one")
	samples.Holds(t, "known", d, "s", "\x03one"+"\x26\xd9\x65\x14\x80\x2e\xab\x88")
}

// P12.1: a text of any number of bytes up to the greatest is saved, as layer 1 puts it, with eight bytes of the digest behind; just that file is there, and nothing is pending.
func TestSaveTexts(t *testing.T) {
	r := chance()
	for _, n := range []int{0, 1, 2, 55, 56, 64, 127, 128, 129, 2048, 16383, 16384, 16385, greatest - 1, greatest} {
		text := string(samples.Text(r, n))
		d := disk.New(most)
		save(t, d, "s", text)
		samples.Holds(t, strconv.Itoa(n), d, "s", snap(text))
		if d.Pending() != 0 {
			t.Errorf("%d bytes: %d pending", n, d.Pending())
		}
		samples.Holds(t, strconv.Itoa(n), samples.After(d, samples.Keeping(0)), "s", snap(text))
		loaded(t, strconv.Itoa(n), d, "s", text)
	}
}

// P12.1: a name has from 1 to 16 bytes from a to z; each is a snap of its own.
func TestNames(t *testing.T) {
	d := disk.New(most)
	for _, name := range rightNames() {
		save(t, d, name, "earlier", "text of "+name)
	}
	for _, name := range rightNames() {
		loaded(t, "many", d, name, "text of "+name)
		b, e := d.Read(name)
		if e != api.OK || string(b) != snap("text of "+name) {
			t.Errorf("%s: %q, %v", name, b, e)
		}
	}
	if got, want := d.Names(), slices.Compact(slices.Sorted(slices.Values(rightNames()))); !slices.Equal(got, want) {
		t.Errorf("%q; want %q", got, want)
	}
}

// P12.1, P12.2: other names are refused, by either call, and nothing is changed: also where there is a file of such a name.
func TestWrongNames(t *testing.T) {
	d := diskOf("s", snap("text"), "other", "other")
	for _, name := range wrongNames() {
		d.Write(name, []byte(snap("text")))
	}
	for _, name := range wrongNames() {
		stays(t, strconv.Quote(name), d, api.ErrArg,
			func() api.Errno { return snaps.Save(d, name, []byte("new")) },
			func() api.Errno { return snaps.Save(d, name, nil) },
			func() api.Errno { refused(t, "wrong", d, name, api.ErrArg); return api.ErrArg },
		)
	}
}

// P12.1: a text that has more bytes than the greatest is refused, whatever room there is, and nothing is changed.
func TestGreatTexts(t *testing.T) {
	d := diskOf("s", snap("text"), "s.new", "left")
	for _, n := range []int{greatest + 1, greatest + 2, 2 * greatest, most, 1 << 24} {
		text := make([]byte, n)
		stays(t, strconv.Itoa(n), d, api.ErrFull,
			func() api.Errno { return snaps.Save(d, "s", text) },
			func() api.Errno { return snaps.Save(d, "other", text) },
		)
	}
	loaded(t, "behind it", d, "s", "text")
}

// P12.1: what is saved takes the place of what was, whatever that was; other files stay.
func TestSaveAgain(t *testing.T) {
	for _, was := range [][]string{{"s", snap("longer than the other")}, {"s", ""}, {"s", "wrong"}, {"s", snap("old"), "s.new", snap("left")}, {"s.new", ""}, {"s.new", strings.Repeat("wrong", 50)}} {
		d := diskOf(append(was, "r", "wrong", "r.new", snap("r"), "ss", snap("ss"), "ss.new", "", "s.tmp", "x", "new", snap("new"), "S", "y")...)
		save(t, d, "s", "", "text", "text", "te")
		samples.Holds(t, was[0], d, "s", snap("te"), "r", "wrong", "r.new", snap("r"), "ss", snap("ss"), "ss.new", "", "s.tmp", "x", "new", snap("new"), "S", "y")
	}
}

// P12.1: there must be room for the new snap beside the old one, but not beside what was left of another try; where there is none the disk's error tells it, and nothing is changed.
func TestSaveRoom(t *testing.T) {
	for _, c := range []struct {
		what  string
		files []string
		taken int // bytes of what there must be room beside
	}{
		{"nothing", nil, 0},
		{"the old one", []string{"s", snap("old")}, len(snap("old"))},
		{"others", []string{"s", snap("old"), "other", "12345"}, len(snap("old")) + 5},
		{"one that was left", []string{"s", snap("old"), "s.new", snap("a longer one")}, len(snap("old"))},
		{"one that was left, alone", []string{"s.new", "123"}, 0},
	} {
		fits := disk.New(c.taken + len(snap("a longer one")))
		samples.Filled(fits, c.files...)
		stays(t, c.what, fits, api.ErrFull,
			func() api.Errno { return snaps.Save(fits, "s", []byte("a longer one+")) },
			func() api.Errno { return snaps.Save(fits, "s", make([]byte, 5000)) },
			func() api.Errno { return snaps.Save(fits, "s", make([]byte, greatest)) },
		)
		save(t, fits, "s", "a longer one")
		loaded(t, c.what, fits, "s", "a longer one")
		if _, e := fits.Read("s.new"); e != api.ErrNone {
			t.Errorf("%s: a file is left: %v", c.what, e)
		}
	}
	d := disk.New(8)
	stays(t, "a small disk", d, api.ErrFull, func() api.Errno { return snaps.Save(d, "s", nil) })
}

// saving are the things that saving text by the name s does to a disk, in their order.
func saving(d *disk.Disk, text string) []func() {
	return []func(){
		func() { d.Write("s.new", []byte(snap(text))) }, d.Sync,
		func() { d.Rename("s.new", "s") }, d.Sync,
	}
}

// P12.1: a snap is written into another file, synced, renamed, and synced; where the disk goes down among these things, at a sync too, that is told.
func TestSaveInOrder(t *testing.T) {
	for _, files := range [][]string{nil, {"s", snap("old")}, {"s", snap("old"), "s.new", "left"}, {"s", "wrong"}, {"other", "1"}} {
		for n := range 8 {
			d, like := diskOf(files...), diskOf(files...)
			d.Append("x", []byte("pending"))
			like.Append("x", []byte("pending"))
			d.Fuse(n)
			do := saving(like, "text")
			for _, f := range do[:min(n, len(do))] {
				f()
			}
			want := api.OK
			if n < len(do) {
				want = api.ErrDown
			}
			samples.Told(t, strconv.Itoa(n)+" things", want, snaps.Save(d, "s", []byte("text")))
			if got, want := samples.State(d), samples.State(like); got != want || d.Down() != (n < len(do)) {
				t.Errorf("%d things: down: %v, %s; want %s", n, d.Down(), got, want)
			}
		}
	}
}

// P12.1: it does just these four things: a fuse that is left is as much shorter.
func TestSaveCounts(t *testing.T) {
	d := disk.New(most)
	d.Fuse(9)
	save(t, d, "s", "one", "two")
	samples.Told(t, "the last one", api.OK, d.Append("x", nil))
	samples.Told(t, "beyond the fuse", api.ErrDown, d.Append("x", nil))
}

// P12.1: on a disk that is down nothing is saved, and nothing is changed.
func TestSaveDown(t *testing.T) {
	d := diskOf("s", snap("old"))
	d.Append("x", []byte("pending"))
	d.Fuse(0)
	d.Sync()
	stays(t, "down", d, api.ErrDown,
		func() api.Errno { return snaps.Save(d, "s", []byte("text")) },
		func() api.Errno { return snaps.Save(d, "other", nil) },
		func() api.Errno { return snaps.Save(d, "s", make([]byte, greatest)) },
	)
	loaded(t, "down", d, "s", "old")
}
