package samples_test

import (
	"maps"
	"math"
	"math/rand/v2"
	"slices"
	"testing"

	"consistory/api"
	"consistory/samples"
)

// shelf is files of which the one named lost can't be read.
type shelf map[string]string

func (s shelf) Names() []string {
	return slices.Sorted(maps.Keys(s))
}

func (s shelf) Read(name string) ([]byte, api.Errno) {
	if name == "lost" {
		return nil, api.ErrNone
	}
	return []byte(s[name]), api.OK
}

// All names and bytes are told, with errors, so that no two sorts of files are told alike.
func TestFiles(t *testing.T) {
	if got := samples.Files(shelf{"b": "\x00", "a": "", "lost": ""}); got != `"a":"" "b":"\x00" "lost":""!13 ` {
		t.Error(got)
	}
	seen := map[string]int{}
	for i, s := range []shelf{{}, {"": ""}, {"a": ""}, {"a": "b"}, {"a": "b", "c": "d"}, {"a": "bc", "d": ""}, {"a": `b" "c":"d`}, {"a": "", "lost": ""}, {"a": "", "loss": ""}} {
		if j, there := seen[samples.Files(s)]; there {
			t.Errorf("files %d are told as files %d", i, j)
		}
		seen[samples.Files(s)] = i
	}
}

// tray is a disk that tells what was done to it: what isn't synced yet, what is, and what it crashed by.
type tray struct {
	shelf
	synced  shelf
	pending int
	plans   []api.Plan
}

func (s *tray) Write(name string, b []byte) api.Errno {
	s.shelf[name] = string(b)
	s.pending++
	return api.OK
}

func (s *tray) Sync() {
	s.synced, s.pending = maps.Clone(s.shelf), 0
}

func (s *tray) Pending() int {
	return s.pending
}

func (s *tray) Copy() *tray {
	return &tray{maps.Clone(s.shelf), maps.Clone(s.synced), s.pending, slices.Clone(s.plans)}
}

func (s *tray) Crash(p api.Plan) {
	s.shelf, s.pending, s.plans = maps.Clone(s.synced), 0, append(s.plans, p)
}

// All files are put onto the disk that is handed in, and synced there; what else it has stays.
func TestFilled(t *testing.T) {
	d := &tray{shelf: shelf{"z": "there"}}
	if got := samples.Filled(d, "b", "two", "a", "", "b", "three"); got != d || d.pending != 0 {
		t.Errorf("%v of %v", got, d)
	}
	if want := (shelf{"a": "", "b": "three", "z": "there"}); !maps.Equal(d.synced, want) {
		t.Errorf("%v; want %v", d.synced, want)
	}
	if samples.Filled(d); len(d.synced) != 3 {
		t.Error(d.synced)
	}
}

// A disk crashes by the plan as a copy: it itself is as it was.
func TestAfter(t *testing.T) {
	d := samples.Filled(&tray{shelf: shelf{}}, "a", "one")
	d.Write("a", []byte("two"))
	p := api.Plan{Keep: 5, Torn: 2, Cut: 7}
	c := samples.After(d, p)
	if !slices.Equal(c.plans, []api.Plan{p}) || c.shelf["a"] != "one" {
		t.Errorf("%v", c)
	}
	if len(d.plans) > 0 || d.shelf["a"] != "two" || d.pending != 1 {
		t.Errorf("%v", d)
	}
}

// A state tells what is read, what was synced, and how much is pending, each apart from the others; the disk stays as it was.
func TestState(t *testing.T) {
	d := samples.Filled(&tray{shelf: shelf{}}, "a", "one")
	if got := samples.State(d); got != `"a":"one" / "a":"one" / 0` {
		t.Error(got)
	}
	d.Write("a", []byte("two"))
	for range 2 {
		if got := samples.State(d); got != `"a":"two" / "a":"one" / 1` || len(d.plans) > 0 {
			t.Error(got, d.plans)
		}
	}
}

// A plan keeps those things and tears none, not the first one either.
func TestKeeping(t *testing.T) {
	for _, keep := range []uint64{0, 1, 1 << 63, math.MaxUint64} {
		if p := samples.Keeping(keep); p.Keep != keep || p.Torn >= 0 {
			t.Errorf("%v keeps not %d", p, keep)
		}
	}
}

// Plans of any sort are the same again from the same source; they tear each of the first things, or none, cut short and long, and keep all, nothing and some.
func TestAnyPlan(t *testing.T) {
	a, b := rand.New(rand.NewPCG(1, 2)), rand.New(rand.NewPCG(1, 2))
	torn, all, nothing, short, long := map[int]bool{}, 0, 0, 0, 0
	for range 3000 {
		p := samples.AnyPlan(a)
		if p != samples.AnyPlan(b) {
			t.Fatal("they are others")
		}
		torn[p.Torn] = true
		switch p.Keep {
		case math.MaxUint64:
			all++
		case 0:
			nothing++
		}
		if p.Cut < 40 {
			short++
		} else {
			long++
		}
	}
	for i := range 10 {
		if !torn[i] || !torn[-1] {
			t.Errorf("%d isn't torn, or there is always one torn", i)
		}
	}
	if min(all, nothing, short, long) < 500 || all+nothing > 2000 {
		t.Errorf("%d keep all, %d nothing; %d cut short, %d long", all, nothing, short, long)
	}
}
