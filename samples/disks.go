package samples

import (
	"math"
	"slices"
	"strconv"
	"strings"

	"consistory/api"
)

const (
	untorn = -1 // a plan that tears this thing tears nothing

	anyUntorn = 2    // a plan of any sort tears nothing, in so many ways,
	anyTorn   = 10   // or one of so many things, of which it leaves
	shortCut  = 40   // fewer bytes,
	longCut   = 2200 // or at times fewer than these
)

// Disk is what files are read of.
type Disk interface {
	Names() []string
	Read(name string) ([]byte, api.Errno)
}

// Writer is a disk on which files can be put.
type Writer interface {
	Write(name string, b []byte) api.Errno
	Sync()
}

// Crasher is a disk of the type D that may crash.
type Crasher[D any] interface {
	Disk
	Copy() D
	Crash(p api.Plan)
	Pending() int
}

// Files tells all that is read of d, from its first file to its last.
func Files(d Disk) string {
	var s strings.Builder
	for _, name := range d.Names() {
		b, e := d.Read(name)
		s.WriteString(strconv.Quote(name) + ":" + strconv.Quote(string(b)))
		if e != api.OK {
			s.WriteString("!" + strconv.Itoa(int(e)))
		}
		s.WriteString(" ")
	}
	return s.String()
}

// Filled is d with those files synced on it, each name with its bytes behind it.
func Filled[D Writer](d D, pairs ...string) D {
	for p := range slices.Chunk(pairs, 2) {
		d.Write(p[0], []byte(p[1]))
	}
	d.Sync()
	return d
}

// Keeping is a plan that keeps those things, and tears nothing.
func Keeping(keep uint64) api.Plan {
	return api.Plan{Keep: keep, Torn: untorn}
}

// AnyPlan is a plan of any sort, with those that keep all, or nothing, more often.
func AnyPlan(s Source) api.Plan {
	p := api.Plan{Keep: s.Uint64(), Torn: below(s, anyUntorn+anyTorn) - anyUntorn, Cut: below(s, shortCut)}
	switch below(s, 4) {
	case 0:
		p.Keep = 0
	case 1:
		p.Keep = math.MaxUint64
	}
	if below(s, 3) == 0 {
		p.Cut = below(s, longCut)
	}
	return p
}

// After is d as a crash by that plan leaves it; d itself doesn't crash.
func After[D Crasher[D]](d D, p api.Plan) D {
	c := d.Copy()
	c.Crash(p)
	return c
}

// State tells what is read of d, what was synced, and how much is pending.
func State[D Crasher[D]](d D) string {
	return Files(d) + "/ " + Files(After(d, Keeping(0))) + "/ " + strconv.Itoa(d.Pending())
}
