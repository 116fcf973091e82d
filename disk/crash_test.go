package disk_test

import (
	"math"
	"strconv"
	"strings"
	"testing"

	"consistory/api"
	"consistory/disk"
	"consistory/samples"
)

// sixPending is a disk with a file a that is synced, and each kind of thing pending, some that hang on others.
func sixPending() *disk.Disk {
	d := disk.New(100)
	d.Write("a", []byte("one"))
	d.Sync()
	d.Append("a", []byte("two"))
	d.Write("b", []byte("bee"))
	d.Rename("b", "c")
	d.Append("c", []byte("cee"))
	d.Delete("a")
	d.Write("c", []byte("d"))
	return d
}

// P10.2: of what is pending those things stay whose bit is 1; what hangs on others is done to what they leave.
func TestCrashKeep(t *testing.T) {
	for _, c := range []struct {
		keep  uint64
		files []string
	}{
		{0, []string{"a", "one"}},
		{1 << 0, []string{"a", "onetwo"}},
		{1 << 1, []string{"a", "one", "b", "bee"}},
		{1 << 2, []string{"a", "one"}},
		{1<<1 | 1<<2, []string{"a", "one", "c", "bee"}},
		{1 << 3, []string{"a", "one", "c", "cee"}},
		{1<<2 | 1<<3, []string{"a", "one", "c", "cee"}},
		{1<<1 | 1<<3, []string{"a", "one", "b", "bee", "c", "cee"}},
		{1<<1 | 1<<2 | 1<<3, []string{"a", "one", "c", "beecee"}},
		{1 << 4, nil},
		{1<<0 | 1<<4, nil},
		{1<<3 | 1<<5, []string{"a", "one", "c", "d"}},
		{1 << 5, []string{"a", "one", "c", "d"}},
		{1<<6 - 1, []string{"c", "d"}},
		{^uint64(1<<6 - 1), []string{"a", "one"}},
		{math.MaxUint64, []string{"c", "d"}},
	} {
		d := sixPending()
		if d.Pending() != 6 {
			t.Fatal(d.Pending())
		}
		d.Crash(samples.Keeping(c.keep))
		samples.Holds(t, strconv.FormatUint(c.keep, 2), d, c.files...)
		if d.Pending() != 0 {
			t.Error(d.Pending())
		}
	}
}

// P10.2: the Torn-th thing is done with the first Cut of its bytes, whatever its bit, and just if it puts bytes.
func TestCrashTorn(t *testing.T) {
	for _, c := range []struct {
		p     api.Plan
		files []string
	}{
		{api.Plan{Torn: 0, Cut: 2}, []string{"a", "onetw"}},
		{api.Plan{Torn: 0, Cut: 2, Keep: 1}, []string{"a", "onetw"}},
		{api.Plan{Torn: 0, Cut: 3}, []string{"a", "onetwo"}},
		{api.Plan{Torn: 0, Cut: 4}, []string{"a", "onetwo"}},
		{api.Plan{Torn: 0, Cut: math.MaxInt}, []string{"a", "onetwo"}},
		{api.Plan{Torn: 0, Cut: 0, Keep: 1}, []string{"a", "one"}},
		{api.Plan{Torn: 0, Cut: -1, Keep: 1}, []string{"a", "one"}},
		{api.Plan{Torn: 0, Cut: math.MinInt, Keep: 1}, []string{"a", "one"}},
		{api.Plan{Torn: 1, Cut: 1}, []string{"a", "one", "b", "b"}},
		{api.Plan{Torn: 1, Cut: 0}, []string{"a", "one", "b", ""}},
		{api.Plan{Torn: 1, Cut: -7}, []string{"a", "one", "b", ""}},
		{api.Plan{Torn: 1, Cut: 2, Keep: 1<<2 | 1<<3}, []string{"a", "one", "c", "becee"}},
		{api.Plan{Torn: 2, Cut: 1, Keep: 1 << 1}, []string{"a", "one", "b", "bee"}},
		{api.Plan{Torn: 2, Cut: 0, Keep: 1<<1 | 1<<2}, []string{"a", "one", "c", "bee"}},
		{api.Plan{Torn: 3, Cut: 0}, []string{"a", "one", "c", ""}},
		{api.Plan{Torn: 3, Cut: 1, Keep: 1<<1 | 1<<2}, []string{"a", "one", "c", "beec"}},
		{api.Plan{Torn: 4, Cut: 2}, []string{"a", "one"}},
		{api.Plan{Torn: 4, Cut: 0, Keep: 1 << 4}, nil},
		{api.Plan{Torn: 5, Cut: 0, Keep: 1<<1 | 1<<2}, []string{"a", "one", "c", ""}},
		{api.Plan{Torn: 6, Cut: 1, Keep: 1}, []string{"a", "onetwo"}},
		{api.Plan{Torn: 64, Cut: 1, Keep: 1}, []string{"a", "onetwo"}},
		{api.Plan{Torn: math.MaxInt, Cut: 1, Keep: 1}, []string{"a", "onetwo"}},
		{api.Plan{Torn: -1, Cut: 1, Keep: 1}, []string{"a", "onetwo"}},
		{api.Plan{Torn: math.MinInt, Cut: 1, Keep: 1}, []string{"a", "onetwo"}},
	} {
		d := sixPending()
		d.Crash(c.p)
		samples.Holds(t, strconv.Itoa(c.p.Torn)+" cut to "+strconv.Itoa(c.p.Cut), d, c.files...)
	}
}

// P10.2: beyond the 64th thing the bits begin anew, but what is torn is one thing alone.
func TestCrashOfMany(t *testing.T) {
	const things = 200
	for _, p := range []api.Plan{samples.Keeping(0), samples.Keeping(1), samples.Keeping(2), samples.Keeping(1 << 63), samples.Keeping(1<<63 | 1<<7 | 1<<8), {Keep: 1 << 5, Torn: 69, Cut: 1}, {Torn: 69, Cut: 1}, {Torn: 128}, {Torn: 199, Cut: 1}, {Torn: 5, Cut: 1}} {
		d := disk.New(2 * things)
		var want strings.Builder
		for i := range things {
			pair := string([]byte{byte(i), 'x'})
			samples.Told(t, "append", api.OK, d.Append("a", []byte(pair)))
			switch {
			case i == p.Torn:
				want.WriteString(pair[:p.Cut])
			case p.Keep&(1<<(i%64)) != 0:
				want.WriteString(pair)
			}
		}
		if d.Pending() != things {
			t.Error(d.Pending())
		}
		d.Crash(p)
		if p.Keep == 0 && p.Torn < 0 {
			samples.Holds(t, "nothing stays", d)
			continue
		}
		samples.Holds(t, "many", d, "a", want.String())
	}
}

// P10.2: in a crash what is renamed to a file's name takes its place, and what isn't there isn't renamed over it.
func TestCrashRename(t *testing.T) {
	build := func() *disk.Disk {
		d := disk.New(100)
		d.Write("a", []byte("1"))
		d.Write("b", []byte("2"))
		d.Sync()
		d.Rename("a", "a")
		d.Rename("a", "b")
		d.Rename("b", "a")
		return d
	}
	for _, c := range []struct {
		keep  uint64
		files []string
	}{{0, []string{"a", "1", "b", "2"}}, {1, []string{"a", "1", "b", "2"}}, {2, []string{"b", "1"}}, {4, []string{"a", "2"}}, {6, []string{"a", "1"}}, {7, []string{"a", "1"}}} {
		d := build()
		d.Crash(samples.Keeping(c.keep))
		samples.Holds(t, strconv.FormatUint(c.keep, 2), d, c.files...)
	}
	d := disk.New(100)
	samples.Told(t, "ahead", api.OK, d.Write("b", []byte("2")))
	d.Sync()
	samples.Told(t, "pending", api.OK, d.Write("a", []byte("1")), d.Rename("a", "b"))
	d.Crash(samples.Keeping(2))
	samples.Holds(t, "what never was there", d, "b", "2")
}

// P10.3: what was synced is never lost, whatever crashes.
func TestSyncedStays(t *testing.T) {
	d := disk.New(100)
	samples.Told(t, "ahead", api.OK, d.Append("a", []byte("1")), d.Write("b", []byte("2")), d.Rename("b", "c"), d.Append("x", nil), d.Delete("x"))
	d.Sync()
	if d.Pending() != 0 {
		t.Error(d.Pending())
	}
	for _, p := range []api.Plan{samples.Keeping(0), {}, samples.Keeping(math.MaxUint64), {Torn: 0, Cut: 0}, {Torn: 1, Cut: -1, Keep: 1}} {
		d.Crash(p)
		samples.Holds(t, "nothing was pending", d, "a", "1", "c", "2")
		samples.Told(t, "pending", api.OK, d.Append("a", []byte("more")), d.Delete("a"), d.Rename("c", "a"), d.Write("c", nil))
		d.Crash(samples.Keeping(0))
		samples.Holds(t, "pending", d, "a", "1", "c", "2")
	}
}

// P10.3: what a crash leaves is there for good, as if it were synced.
func TestCrashLeavesForGood(t *testing.T) {
	d := sixPending()
	d.Crash(api.Plan{Torn: 3, Cut: 2, Keep: 1 << 0})
	for range 3 {
		samples.Holds(t, "again", d, "a", "onetwo", "c", "ce")
		samples.Told(t, "pending", api.OK, d.Delete("a"))
		d.Crash(api.Plan{Torn: 0, Cut: 9})
	}
}

// P10.2: a sync makes the counting of what is pending begin anew.
func TestSyncBeginsAnew(t *testing.T) {
	d := disk.New(100)
	for range 70 {
		samples.Told(t, "append", api.OK, d.Append("a", []byte("1")))
	}
	d.Sync()
	d.Sync()
	samples.Told(t, "behind", api.OK, d.Append("b", []byte("1")), d.Append("b", []byte("2")), d.Append("b", []byte("3")))
	if d.Pending() != 3 {
		t.Error(d.Pending())
	}
	d.Crash(samples.Keeping(1 << 1))
	samples.Holds(t, "behind", d, "a", strings.Repeat("1", 70), "b", "2")
}

// The chapter's example.
func TestExample(t *testing.T) {
	d := disk.New(10)
	samples.Told(t, "example", api.OK, d.Append("f", []byte{1}))
	d.Sync()
	samples.Told(t, "example", api.OK, d.Append("f", []byte{2}))
	d.Crash(api.Plan{Keep: 0, Torn: -1})
	samples.Holds(t, "example", d, "f", "\x01")
}
