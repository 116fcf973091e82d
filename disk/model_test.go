package disk_test

import (
	"maps"
	"math/rand/v2"
	"slices"
	"strconv"
	"strings"
	"testing"

	"consistory/api"
	"consistory/disk"
	"consistory/samples"
)

// deed is one thing that was done: how, to which files, by which text.
type deed struct {
	how      string
	a, b     string
	text     string
	putsText bool
}

// model is a disk that keeps all that ever was done, and tells everything by doing it again; its fuse is counted down below 0 too, where it never blows.
type model struct {
	room          int
	kept, pending []deed
	fuse          int
	down          bool
}

// files are what all deeds leave.
func (m *model) files() map[string]string {
	f := map[string]string{}
	for _, x := range slices.Concat(m.kept, m.pending) {
		_, there := f[x.a]
		switch {
		case x.how == "append":
			f[x.a] += x.text
		case x.how == "write":
			f[x.a] = x.text
		case there && x.how == "rename":
			text := f[x.a]
			delete(f, x.a)
			f[x.b] = text
		case there && x.how == "delete":
			delete(f, x.a)
		}
	}
	return f
}

// do tells the error of a deed, and does it if there is none.
func (m *model) do(x deed) api.Errno {
	f := m.files()
	_, there := f[x.a]
	all := x.text
	for name, text := range f {
		if x.how != "write" || name != x.a {
			all += text
		}
	}
	wrong := func(name string) bool { return name == "" || len(name) > 24 }
	switch {
	case m.down:
		return api.ErrDown
	case wrong(x.a) || x.how == "rename" && wrong(x.b):
		return api.ErrArg
	case x.putsText && len(all) > m.room:
		return api.ErrFull
	case !x.putsText && !there:
		return api.ErrNone
	case m.fuse == 0:
		m.down = true
		return api.ErrDown
	}
	m.fuse--
	m.pending = append(m.pending, x)
	return api.OK
}

// sync keeps what is pending.
func (m *model) sync() {
	if m.fuse == 0 {
		m.down = true
	}
	if m.down {
		return
	}
	m.fuse--
	m.kept, m.pending = append(m.kept, m.pending...), nil
}

// crash keeps what the plan says of what is pending.
func (m *model) crash(p api.Plan) {
	for i, x := range m.pending {
		switch {
		case i == p.Torn && x.putsText:
			if len(x.text) > p.Cut {
				x.text = x.text[:max(p.Cut, 0)]
			}
			m.kept = append(m.kept, x)
		case p.Keep&(1<<(i&63)) != 0:
			m.kept = append(m.kept, x)
		}
	}
	m.pending, m.fuse, m.down = nil, -1, false
}

// copied is a model of which nothing changes with m.
func (m *model) copied() *model {
	c := *m
	c.kept, c.pending = slices.Clone(m.kept), slices.Clone(m.pending)
	return &c
}

// both are a disk and its model.
type both struct {
	d *disk.Disk
	m *model
}

// same checks that the disk is as its model.
func (x both) same(t *testing.T, what string) {
	t.Helper()
	var want strings.Builder
	f := x.m.files()
	for _, name := range slices.Sorted(maps.Keys(f)) {
		want.WriteString(strconv.Quote(name) + ":" + strconv.Quote(f[name]) + " ")
	}
	if got := samples.Files(x.d); got != want.String() || x.d.Pending() != len(x.m.pending) || x.d.Down() != x.m.down {
		t.Fatalf("%s: %s, %d pending, down: %v; want %s, %d, %v", what, got, x.d.Pending(), x.d.Down(), want.String(), len(x.m.pending), x.m.down)
	}
}

// copied are copies of both.
func (x both) copied() both {
	return both{x.d.Copy(), x.m.copied()}
}

// put does a thing to both that puts, renames or deletes.
func (x both) put(t *testing.T, r *rand.Rand) {
	t.Helper()
	names := []string{"a", "a", "b", "b", "c", "d", strings.Repeat("e", 24), strings.Repeat("f", 25), ""}
	some := func() string { return names[r.IntN(len(names))] }
	y := deed{a: some(), b: some(), text: strings.Repeat(string(rune('0'+r.IntN(10))), r.IntN(6))}
	var e api.Errno
	switch r.IntN(8) {
	case 0, 1, 2:
		y.how, y.putsText = "append", true
		e = x.d.Append(y.a, []byte(y.text))
	case 3, 4:
		y.how, y.putsText = "write", true
		e = x.d.Write(y.a, []byte(y.text))
	case 5, 6:
		y.how, y.text = "rename", ""
		e = x.d.Rename(y.a, y.b)
	case 7:
		y.how, y.text = "delete", ""
		e = x.d.Delete(y.a)
	}
	if want := x.m.do(y); e != want {
		t.Fatalf("%v: %v; want %v", y, e, want)
	}
}

// step does one thing of any sort to both.
func (x both) step(t *testing.T, r *rand.Rand) {
	t.Helper()
	switch n := r.IntN(40); {
	case n < 33:
		x.put(t, r)
	case n < 36:
		x.d.Sync()
		x.m.sync()
	case n < 38:
		p := api.Plan{Keep: r.Uint64(), Torn: r.IntN(12) - 2, Cut: r.IntN(8) - 2}
		x.d.Crash(p)
		x.m.crash(p)
	default:
		fuse := r.IntN(12) - 2
		if !x.m.down {
			x.m.fuse = fuse
		}
		x.d.Fuse(fuse)
	}
}

// P10.1, P10.2, P10.3: whatever is done, in whatever order, a disk is as one that does all of it anew.
func TestLikeModel(t *testing.T) {
	r := chance()
	for range 400 {
		room := r.IntN(40)
		x := both{disk.New(room), &model{room: room, fuse: -1}}
		for range 120 {
			x.step(t, r)
			x.same(t, "step")
		}
	}
}

// P10.2: a copy is like its disk in all that it may be asked for, and neither changes with the other.
func TestCopy(t *testing.T) {
	r := chance()
	for range 300 {
		room := r.IntN(60)
		x := both{disk.New(room), &model{room: room, fuse: -1}}
		all := []both{x}
		for range 60 {
			i := r.IntN(len(all))
			if r.IntN(12) == 0 && len(all) < 5 {
				all = append(all, all[i].copied())
				if a, b := allOf(all[i].d), allOf(all[len(all)-1].d); a != b {
					t.Fatalf("%s is copied as %s", a, b)
				}
			}
			all[i].step(t, r)
			for _, x := range all {
				x.same(t, "of copies")
			}
		}
		for _, x := range all {
			x.d.Crash(samples.Keeping(0))
			x.m.crash(samples.Keeping(0))
			x.same(t, "what was synced")
		}
	}
}

// P10.2: a copy has the fuse, is down as its disk, and has the room.
func TestCopyOfFuse(t *testing.T) {
	d := disk.New(5)
	samples.Told(t, "ahead", api.OK, d.Append("a", []byte("123")))
	d.Fuse(1)
	c := d.Copy()
	samples.Told(t, "no room", api.ErrFull, c.Append("a", []byte("456")), d.Append("b", []byte("456")))
	samples.Told(t, "within the fuse", api.OK, c.Delete("a"), d.Append("a", []byte("45")))
	samples.Holds(t, "copy", c)
	samples.Holds(t, "disk", d, "a", "12345")
	samples.Told(t, "beyond the fuse", api.ErrDown, c.Write("a", nil))
	if !c.Down() || d.Down() {
		t.Error(c.Down(), d.Down())
	}
	down := c.Copy()
	c.Crash(samples.Keeping(0))
	if !down.Down() || c.Down() || down.Pending() != 2 {
		t.Error(down.Down(), c.Down(), down.Pending())
	}
	down.Crash(samples.Keeping(1))
	samples.Holds(t, "copy of the copy", down, "a", "123")
}
