package disk_test

import (
	"bytes"
	"math"
	"slices"
	"strings"
	"sync"
	"testing"
	"unsafe"

	"consistory/api"
	"consistory/disk"
	"consistory/samples"
)

// P10.3: a nil disk tells ErrNil, nothing, 0 and nil, whatever it is asked for.
func TestNilDisk(t *testing.T) {
	var d *disk.Disk
	for _, name := range append(wrongNames(), "a") {
		samples.Told(t, name, api.ErrNil, d.Append(name, nil), d.Append(name, []byte{1}), d.Write(name, nil), d.Rename(name, "b"), d.Rename("b", name), d.Delete(name))
		if b, e := d.Read(name); e != api.ErrNil || len(b) != 0 {
			t.Errorf("%q: %v, %v", name, b, e)
		}
	}
	d.Sync()
	d.Fuse(0)
	d.Sync()
	d.Crash(api.Plan{Keep: 1})
	if len(d.Names()) != 0 || d.Pending() != 0 || d.Down() || d.Copy() != nil {
		t.Error(d.Names(), d.Pending(), d.Down())
	}
}

// R3: nil and nothing are one, as what is put and as what is read.
func TestNilIsNothing(t *testing.T) {
	c, d := disk.New(10), disk.New(10)
	samples.Told(t, "nil", api.OK, c.Append("a", nil), c.Write("b", nil), c.Write("c", []byte("1")), c.Write("c", nil))
	samples.Told(t, "nothing", api.OK, d.Append("a", []byte{}), d.Write("b", []byte{}), d.Write("c", []byte("1")), d.Write("c", []byte{}))
	if a, b := allOf(c), allOf(d); a != b {
		t.Errorf("%s; want %s", a, b)
	}
	samples.Holds(t, "nil", c, "a", "", "b", "", "c", "")
}

// R4: bytes that are handed in aren't changed, spare room included, nor kept: what is read, pending or synced doesn't change with them.
func TestBytesStay(t *testing.T) {
	calls := func(d *disk.Disk, b []byte) {
		samples.Told(t, "put", api.OK, d.Append("a", b), d.Write("b", b), d.Write("c", b), d.Append("c", []byte("and")))
	}
	for _, synced := range []bool{false, true} {
		d, like := disk.New(100), disk.New(100)
		whole, view := samples.Roomy([]byte("one"))
		before := slices.Clone(whole)
		calls(d, view)
		calls(like, []byte("one"))
		if synced {
			d.Sync()
			like.Sync()
		}
		samples.Told(t, "behind", api.OK, d.Append("b", []byte("more")), like.Append("b", []byte("more")))
		if !bytes.Equal(whole, before) {
			t.Error("the bytes are changed")
		}
		samples.Spoil(view)
		if a, b := allOf(d), allOf(like); a != b {
			t.Errorf("%s with the bytes; want %s", a, b)
		}
	}
}

// R4: names that are handed in aren't kept as they are: whoever has their memory doesn't change a file's name.
func TestNamesAreNotKept(t *testing.T) {
	from, to := []byte("from"), []byte("to")
	d := disk.New(100)
	samples.Told(t, "put", api.OK, d.Write(unsafe.String(&from[0], len(from)), []byte("1")), d.Rename(unsafe.String(&from[0], len(from)), unsafe.String(&to[0], len(to))))
	c := d.Copy()
	samples.Spoil(from)
	samples.Spoil(to)
	for _, d := range []*disk.Disk{d, c} {
		samples.Holds(t, "read", d, "to", "1")
		d.Crash(samples.Keeping(1))
		samples.Holds(t, "pending", d, "from", "1")
	}
}

// R4: what is read is new memory: it shares none with the disk, spare room included, nor with other answers.
func TestReadIsNew(t *testing.T) {
	for n := range 40 {
		d := disk.New(1000)
		text := strings.Repeat("x", n)
		samples.Told(t, "put", api.OK, d.Write("a", []byte(text)), d.Append("b", []byte("ahead")), d.Append("b", []byte(text)))
		for range 3 {
			a, _ := d.Read("a")
			b, _ := d.Read("b")
			again, _ := d.Read("b")
			samples.Spoil(a)
			samples.Spoil(b)
			if string(again) != "ahead"+text {
				t.Error("it changes with an earlier answer")
			}
			samples.Holds(t, "it changes with the answer", d, "a", text, "b", "ahead"+text)
			d.Sync()
			samples.Told(t, "put", api.OK, d.Append("b", []byte("behind")))
			d.Crash(samples.Keeping(0))
		}
	}
}

// R4: bytes that were read don't change with what is done behind.
func TestReadStays(t *testing.T) {
	d := disk.New(1000)
	samples.Told(t, "put", api.OK, d.Write("a", []byte("one")))
	read, _ := d.Read("a")
	names := d.Names()
	samples.Told(t, "behind", api.OK, d.Append("a", []byte("two")), d.Write("a", []byte("TWO")), d.Rename("a", "b"), d.Append("b", []byte("3")))
	d.Crash(api.Plan{Torn: 0, Cut: 1})
	if string(read) != "one" || !slices.Equal(names, []string{"a"}) {
		t.Errorf("%q %q", read, names)
	}
}

// R4: names that are told are new memory, and so is the list of them.
func TestNamesAreNew(t *testing.T) {
	d := disk.New(100)
	samples.Told(t, "put", api.OK, d.Write("a", nil), d.Write("b", nil), d.Write("c", nil))
	l := d.Names()
	for _, name := range l {
		*unsafe.StringData(name) = 'z'
	}
	clear(l[:cap(l)])
	samples.Holds(t, "names", d, "a", "", "b", "", "c", "")
}

// R5: what a disk answers hangs on what it has been through alone, not on other disks beside it.
func TestSameAgain(t *testing.T) {
	var w sync.WaitGroup
	for range 4 {
		w.Go(func() {
			r := chance()
			for range 40 {
				x := both{disk.New(50), &model{room: 50, fuse: -1}}
				for range 60 {
					x.step(t, r)
				}
				x.same(t, "beside others")
				if a, b := allOf(x.d), allOf(x.d); a != b {
					t.Errorf("%s, and then %s", a, b)
				}
			}
		})
	}
	w.Wait()
}

// R1: every call ends and none panics, at all arguments.
func TestNeverPanics(t *testing.T) {
	r := chance()
	numbers := samples.Numbers()
	some := func() int { return numbers[r.IntN(len(numbers))] }
	names := append(wrongNames(), rightNames()...)
	name := func() string { return names[r.IntN(len(names))] }
	for range 300 {
		d := disk.New(some())
		for range 40 {
			d.Append(name(), samples.Text(r, r.IntN(50)))
			d.Write(name(), samples.Text(r, r.IntN(50)))
			d.Rename(name(), name())
			d.Delete(name())
			d.Read(name())
			switch r.IntN(20) {
			case 0:
				d.Sync()
			case 1:
				d.Crash(api.Plan{Keep: r.Uint64(), Torn: some(), Cut: some()})
			case 2:
				d.Crash(api.Plan{Keep: math.MaxUint64, Torn: r.IntN(40), Cut: some()})
			case 3:
				d.Fuse(some())
			case 4:
				d.Copy().Write(name(), nil)
			}
		}
		samples.Files(d)
		allOf(d)
	}
}
