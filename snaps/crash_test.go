package snaps_test

import (
	"math/rand/v2"
	"strconv"
	"strings"
	"testing"

	"consistory/api"
	"consistory/disk"
	"consistory/samples"
	"consistory/snaps"
)

// fewPlans are plans of all that can be left of so many pending things, of which some bytes may be cut.
func fewPlans(pending int) []api.Plan {
	var l []api.Plan
	for keep := range uint64(1) << pending {
		l = append(l, samples.Keeping(keep))
		for torn := range pending {
			for _, cut := range []int{-1, 0, 1, 2, 3, 5, 9, 12, 13, 14, 100} {
				l = append(l, api.Plan{Keep: keep, Torn: torn, Cut: cut})
			}
		}
	}
	return l
}

// P12.3: at each thing that saving does, and by each plan of what is pending there, a crash leaves what was saved, or what was ahead of it; a name that was never saved has nothing. From there on it can be saved.
func TestEachCrash(t *testing.T) {
	for _, old := range []string{"", "an older text"} {
		for _, ahead := range []int{0, 1, 3} {
			for n := range 6 {
				d := disk.New(most)
				if old != "" {
					save(t, d, "s", "the oldest", old)
				}
				for range ahead {
					d.Append("x", []byte("pending"))
				}
				d.Fuse(n)
				e := snaps.Save(d, "s", []byte("text"))
				for _, p := range fewPlans(d.Pending()) {
					what := strconv.Itoa(n) + " things"
					c := samples.After(d, p)
					mayBe(t, what, c, old, "text", n < 3, e == api.OK)
					save(t, c, "s", "behind")
					c.Crash(samples.Keeping(0))
					loaded(t, what+", and saved", c, "s", "behind")
				}
			}
		}
	}
}

// mayBe checks that the snap s has the old text (if that isn't empty: else it isn't there) or the new one, if it must be one of these, that one.
func mayBe(t *testing.T, what string, d *disk.Disk, old, text string, mustOld, mustNew bool) {
	t.Helper()
	got, e := snaps.Load(d, "s")
	isOld := e == api.OK && string(got) == old
	if old == "" {
		isOld = e == api.ErrNone && len(got) == 0
	}
	isNew := e == api.OK && string(got) == text
	if !isOld && !isNew || mustOld && !isOld || mustNew && !isNew {
		t.Errorf("%s: %q, %v; of %q must be the old one: %v, the new one: %v", what, got, e, old, mustOld, mustNew)
	}
}

// P12.3: a crash that comes once it was saved leaves just that, by whatever plan.
func TestSavedIsSafe(t *testing.T) {
	r := chance()
	for range 300 {
		d := disk.New(most)
		save(t, d, "s", "old", "text")
		for range r.IntN(5) {
			d.Append("x", samples.Text(r, r.IntN(30)))
			d.Write("y", samples.Text(r, r.IntN(30)))
			d.Delete("y")
		}
		for range 3 {
			d.Crash(samples.AnyPlan(r))
			loaded(t, "behind a crash", d, "s", "text")
		}
	}
}

// P12.3: where only the second sync, or what was renamed, was lost, either text may be there; both of these are met.
func TestEitherText(t *testing.T) {
	for keep, want := range []string{"old", "text"} {
		d := disk.New(most)
		save(t, d, "s", "old")
		d.Fuse(3)
		samples.Told(t, "no last sync", api.ErrDown, snaps.Save(d, "s", []byte("text")))
		loaded(t, "down", d, "s", "text")
		d.Crash(samples.Keeping(uint64(keep)))
		loaded(t, "behind the crash", d, "s", want)
	}
}

// session is snaps on a disk, and what each may have.
type session struct {
	d    *disk.Disk
	last map[string]string // what was saved last; what isn't there was never saved
	next map[string]string // what was tried since, and may have been saved
	made int               // texts that were made
}

// save saves a new text by any name, as far as the disk lets it.
func (s *session) save(t *testing.T, r *rand.Rand) {
	t.Helper()
	s.made++
	name := []string{"s", "ss", "snapsnapsnapsnap"}[r.IntN(3)]
	text := strconv.Itoa(s.made) + strings.Repeat("x", []int{0, 1, 40, 700, 3000}[r.IntN(5)])
	switch e := snaps.Save(s.d, name, []byte(text)); e {
	case api.OK:
		s.last[name] = text
	case api.ErrDown:
		s.next[name] = text
	case api.ErrFull:
	default:
		t.Fatal(e)
	}
}

// check checks each snap behind a crash; from there on it has what was found.
func (s *session) check(t *testing.T) {
	t.Helper()
	for _, name := range []string{"s", "ss", "snapsnapsnapsnap"} {
		got, e := snaps.Load(s.d, name)
		last, was := s.last[name]
		next, tried := s.next[name]
		switch {
		case tried && e == api.OK && string(got) == next:
			s.last[name] = next
		case was && (e != api.OK || string(got) != last), !was && e != api.ErrNone:
			t.Fatalf("%s: %.100q, %v; saved: %v, %.100q; tried: %v, %.100q", name, got, e, was, last, tried, next)
		}
	}
	clear(s.next)
}

// P12.3: whatever is saved, and wherever that crashes, again and again, each snap has what was saved last, or what was ahead, if that wasn't done.
func TestSessions(t *testing.T) {
	r := chance()
	tried := 0
	for range 600 {
		s := &session{disk.New(r.IntN(20000)), map[string]string{}, map[string]string{}, 0}
		for range 12 {
			if r.IntN(3) > 0 {
				s.d.Fuse(r.IntN(20))
			}
			for range r.IntN(8) {
				if r.IntN(4) == 0 {
					s.d.Write("other", samples.Text(r, r.IntN(100)))
				}
				s.save(t, r)
				if s.d.Down() {
					break
				}
			}
			tried += len(s.next)
			s.d.Crash(samples.AnyPlan(r))
			s.check(t)
		}
	}
	if tried < 1000 {
		t.Errorf("just %d times there was a crash within", tried)
	}
}
