package snaps_test

import (
	"math/rand/v2"
	"slices"
	"strconv"
	"strings"
	"sync"
	"testing"
	"unsafe"

	"consistory/api"
	"consistory/disk"
	"consistory/samples"
	"consistory/snaps"
)

// P12.1, P12.2: without a disk nothing is saved or loaded; that is told ahead of all else.
func TestNilDisk(t *testing.T) {
	for _, name := range append(wrongNames(), "s") {
		samples.Told(t, strconv.Quote(name), api.ErrNil, snaps.Save(nil, name, nil), snaps.Save(nil, name, []byte("text")), snaps.Save(nil, name, make([]byte, greatest+1)))
		refused(t, "nil", nil, name, api.ErrNil)
	}
}

// R2: of a wrong name, a text that is too great and what the disk would tell that one is told that the chapter names first.
func TestFirstError(t *testing.T) {
	great := make([]byte, greatest+1)
	d := diskOf("s", snap("text"))
	samples.Told(t, "a name and a text", api.ErrArg, snaps.Save(d, "S", great), snaps.Save(d, "", great))
	small := disk.New(3)
	samples.Told(t, "a name on a full disk", api.ErrArg, snaps.Save(small, "S", []byte("text")), snaps.Save(small, strings.Repeat("s", 25), great))
	d.Fuse(0)
	d.Sync()
	samples.Told(t, "a name on a disk that is down", api.ErrArg, snaps.Save(d, "S", nil), snaps.Save(d, "S", great))
	samples.Told(t, "a text on a disk that is down", api.ErrFull, snaps.Save(d, "s", great))
	samples.Told(t, "down", api.ErrDown, snaps.Save(d, "s", nil))
	refused(t, "a name on a disk that is down", d, "S", api.ErrArg)
	refused(t, "none on a disk that is down", d, "a", api.ErrNone)
}

// R3: nil and nothing are one, as a text.
func TestNilIsNothing(t *testing.T) {
	c, d := disk.New(most), disk.New(most)
	samples.Told(t, "nil", api.OK, snaps.Save(c, "s", nil))
	samples.Told(t, "nothing", api.OK, snaps.Save(d, "s", []byte{}))
	samples.Holds(t, "nil", c, "s", snap(""))
	samples.Holds(t, "nothing", d, "s", snap(""))
	loaded(t, "nil", c, "s", "")
}

// R4: a text that is handed in isn't changed, spare room included, nor kept: what is saved doesn't change with it.
func TestTextStays(t *testing.T) {
	for _, text := range []string{"", "t", "text", strings.Repeat("long", 100), strings.Repeat("x", greatest+1)} {
		for _, room := range []int{most, 5} {
			d := disk.New(room)
			whole, view := samples.Roomy([]byte(text))
			before := slices.Clone(whole)
			e := snaps.Save(d, "s", view)
			if !slices.Equal(whole, before) {
				t.Errorf("%.20q is changed", text)
			}
			samples.Spoil(view)
			if e == api.OK {
				loaded(t, "spoiled", d, "s", text)
				samples.Holds(t, "spoiled", d, "s", snap(text))
			}
		}
	}
}

// R4: a name that is handed in isn't kept as it is: whoever has its memory doesn't change the file's name.
func TestNameIsNotKept(t *testing.T) {
	name := []byte("snap")
	d := disk.New(most)
	samples.Told(t, "save", api.OK, snaps.Save(d, unsafe.String(&name[0], len(name)), []byte("text")))
	samples.Spoil(name)
	samples.Holds(t, "its name", d, "snap", snap("text"))
}

// R4: a text that is answered is new memory, spare room included: it shares none with the disk or with other answers.
func TestLoadedIsNew(t *testing.T) {
	for _, n := range []int{0, 1, 8, 100, 5000} {
		text := strings.Repeat("x", n)
		d := disk.New(most)
		save(t, d, "s", text)
		a, _ := snaps.Load(d, "s")
		b, _ := snaps.Load(d, "s")
		if !samples.Apart([][]byte{a, b}) {
			t.Error("two answers share memory")
		}
		loaded(t, "spoiled", d, "s", text)
		c, _ := snaps.Load(d, "s")
		save(t, d, "s", "another text")
		d.Crash(samples.Keeping(0))
		if string(c) != text {
			t.Errorf("%d bytes change with what is saved", n)
		}
	}
}

// anySession does things of all sorts to a disk, and tells all that was answered.
func anySession(r *rand.Rand) string {
	var s strings.Builder
	names := append(wrongNames(), rightNames()...)
	name := func() string { return names[r.IntN(len(names))] }
	d := disk.New(r.IntN(9000))
	for range 60 {
		s.WriteString(snaps.Save(d, name(), samples.Text(r, r.IntN(900))).Error())
		text, e := snaps.Load(d, name())
		s.WriteString(string(text) + e.Error())
		switch r.IntN(8) {
		case 0:
			d.Fuse(r.IntN(12))
		case 1:
			d.Crash(samples.AnyPlan(r))
		case 2:
			d.Write(name(), anyFile(r))
		case 3:
			s.WriteString(snaps.Save(d, name(), nil).Error())
		}
	}
	return s.String() + samples.State(d)
}

// anyFile is bytes that may be a snap, or nearly.
func anyFile(r *rand.Rand) []byte {
	b := []byte(snap(strings.Repeat("x", r.IntN(300))))
	switch r.IntN(5) {
	case 0:
		return append(b, samples.Text(r, r.IntN(20))...)
	case 1:
		return b[:r.IntN(len(b)+1)]
	case 2:
		b[r.IntN(len(b))] ^= 1 << r.IntN(8)
	case 3:
		return samples.Text(r, r.IntN(40))
	}
	return b
}

// R5: what is answered hangs on what is handed in and on what the disk has been through alone, not on others beside it.
func TestSameAgain(t *testing.T) {
	var got [4]string
	var w sync.WaitGroup
	for i := range got {
		w.Go(func() {
			r := chance()
			for range 20 {
				got[i] += anySession(r)
			}
		})
	}
	w.Wait()
	for _, s := range got {
		if s != got[0] {
			t.Error("of one and the same sessions two are unlike")
		}
	}
}

// R1: every call ends and none panics, whatever there is on the disk, and whatever is handed in; what is loaded was right.
func TestNeverPanics(t *testing.T) {
	r := chance()
	for range 300 {
		anySession(r)
	}
	right := 0
	for range 3000 {
		b := anyFile(r)
		text, e := snaps.Load(diskOf("s", string(b)), "s")
		if e == api.OK {
			right++
		}
		if e == api.OK && snap(string(text)) != string(b) || e != api.OK && (e != api.ErrForm || len(text) > 0) {
			t.Fatalf("% x: % x, %v", b, text, e)
		}
		snaps.Load(diskOf("s", string(b)), string(samples.Text(r, r.IntN(20))))
	}
	if right < 300 || right > 2700 {
		t.Errorf("%d are right", right)
	}
	snaps.Load(disk.New(0), strings.Repeat("s", 1<<20))
	snaps.Save(disk.New(0), strings.Repeat("s", 1<<20), make([]byte, 1<<20))
}
