package disk_test

import (
	"math"
	"math/rand/v2"
	"strconv"
	"strings"
	"testing"

	"consistory/api"
	"consistory/disk"
	"consistory/samples"
)

const (
	longest = 24      // bytes of a file's name
	most    = 1 << 20 // bytes of a disk
)

// wrongNames are names that no file has.
func wrongNames() []string {
	return []string{"", strings.Repeat("n", longest+1), strings.Repeat("n", longest+2), strings.Repeat("\x00", 256), strings.Repeat("n", 256+5), strings.Repeat("é", longest/2) + "x"}
}

// rightNames are names of all lengths, and of bytes of all sorts.
func rightNames() []string {
	l := []string{"\x00", " ", "/", "..", "\xff", "\xff\xfe\x00", "é", strings.Repeat("é", longest/2), strings.Repeat("\x00", longest)}
	for n := 1; n <= longest; n++ {
		l = append(l, strings.Repeat("a", n))
	}
	return l
}

// allOf tells all that d can be asked for: what is read, what each of some crashes would leave, and how long the fuse is.
func allOf(d *disk.Disk) string {
	s := samples.Files(d) + strconv.Itoa(d.Pending()) + " " + strconv.FormatBool(d.Down())
	for _, p := range []api.Plan{samples.Keeping(0), samples.Keeping(math.MaxUint64), samples.Keeping(0x5555555555555555), {Torn: 0, Cut: 1}} {
		c := d.Copy()
		c.Crash(p)
		s += " / " + samples.Files(c)
	}
	c, n := d.Copy(), 0
	for ; n < 20 && !c.Down(); n++ {
		c.Sync()
	}
	return s + " / " + strconv.Itoa(n)
}

// refused checks that each call answers the error want, and changes nothing.
func refused(t *testing.T, what string, d *disk.Disk, want api.Errno, calls ...func() api.Errno) {
	t.Helper()
	before := allOf(d)
	for i, call := range calls {
		if e := call(); e != want {
			t.Errorf("%s: call %d tells %v; want %v", what, i, e, want)
		}
		if after := allOf(d); after != before {
			t.Errorf("%s: call %d makes of %s %s", what, i, before, after)
		}
	}
}

// chance is a source of numbers that is always the same.
func chance() *rand.Rand {
	return rand.New(rand.NewPCG(10, 3))
}
