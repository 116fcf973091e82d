package logs_test

import (
	"math/rand/v2"
	"slices"
	"strconv"
	"strings"
	"testing"

	"consistory/api"
	"consistory/disk"
	"consistory/logs"
	"consistory/samples"
)

// session is a log, and what is known of what was put into it, whatever may crash.
type session struct {
	d   *disk.Disk
	l   *logs.Log
	all []string // what was put, in order; no two are alike

	synced   int // up to here records are there behind any crash, from begin on at least
	begin    int // where the last cut that was done begins
	cut      int // where a cut begins that wasn't done, or not as far as anybody was told
	wholeCut int // up to here must be there what that cut was to keep, if anything ahead of it is gone
	made     int // texts that were made
}

// text is one that there wasn't yet, of any length.
func (s *session) text(r *rand.Rand) string {
	s.made++
	return strconv.Itoa(s.made) + strings.Repeat("x", []int{0, 0, 1, 20, 400, 1200, 2100}[r.IntN(7)])
}

// open opens the log of a disk that doesn't go down, and checks what is found; from there on that is what was put.
func (s *session) open(t *testing.T, what string) {
	t.Helper()
	l, found, e := logs.Open(s.d, "f")
	if e != api.OK {
		t.Fatalf("%s: %v", what, e)
	}
	var texts []string
	for _, text := range found {
		texts = append(texts, string(text))
	}
	if !s.mayFind(texts) {
		t.Fatalf("%s: found %.300q; put %.300q, of which %d are synced, cut at %d or %d", what, texts, s.all, s.synced, s.begin, s.cut)
	}
	if len(texts) == 0 && l.Next() != 1 {
		t.Fatalf("%s: with no record the next is %d", what, l.Next())
	}
	made := s.made
	*s = session{d: s.d, l: l, all: texts, synced: len(texts), made: made}
}

// mayFind tells whether the promise lets those texts be found.
func (s *session) mayFind(texts []string) bool {
	if len(texts) == 0 {
		return s.synced <= s.begin || s.synced <= s.cut && s.wholeCut == s.cut
	}
	from := slices.Index(s.all, texts[0])
	if from < 0 || len(texts) > len(s.all)-from || !slices.Equal(s.all[from:from+len(texts)], texts) {
		return false
	}
	to := from + len(texts)
	switch {
	case s.synced <= s.begin: // the first ones may miss
		return from >= s.begin
	case from == s.begin:
		return to >= s.synced
	}
	return from > s.begin && from <= s.cut && to >= s.wholeCut && to >= s.synced
}

// append appends a text.
func (s *session) append(r *rand.Rand) api.Errno {
	text := s.text(r)
	e := s.l.Append([]byte(text))
	if e == api.OK {
		s.all = append(s.all, text)
	}
	return e
}

// sync syncs the log.
func (s *session) sync() api.Errno {
	s.l.Sync()
	if s.d.Down() {
		return api.ErrDown
	}
	s.synced = len(s.all)
	return api.OK
}

// cutTo cuts the log to so many new texts.
func (s *session) cutTo(n int, r *rand.Rand) api.Errno {
	var keep []string
	for range n {
		keep = append(keep, s.text(r))
	}
	at, next := len(s.all), s.l.Next()
	e := s.l.Cut(listed(keep...))
	s.all = append(s.all, keep[:s.l.Next()-next]...)
	if e == api.ErrFull {
		return e // nothing is deleted, nor synced
	}
	s.cut, s.wholeCut = at, at+n
	if e == api.OK {
		s.begin, s.synced = at, len(s.all)
	}
	return e
}

// step does one thing of any sort.
func (s *session) step(r *rand.Rand) api.Errno {
	switch n := r.IntN(20); {
	case n < 14:
		return s.append(r)
	case n < 18:
		return s.sync()
	default:
		return s.cutTo(r.IntN(4), r)
	}
}

// crash lets the disk crash by any plan, and again as the log is mended.
func (s *session) crash(r *rand.Rand) {
	for {
		s.d.Crash(samples.AnyPlan(r))
		s.d.Fuse(r.IntN(8))
		if _, _, e := logs.Open(s.d, "f"); e != api.ErrDown {
			s.d.Fuse(-1)
			return
		}
	}
}

// P11.4: whatever is done, and wherever that crashes, again and again, what was synced is found, and nothing that wasn't put.
func TestSessions(t *testing.T) {
	r := chance()
	for range 400 {
		s := &session{d: disk.New(most)}
		s.open(t, "empty")
		for range 12 {
			if r.IntN(2) == 0 {
				s.d.Fuse(r.IntN(30))
			}
			for range r.IntN(40) {
				if s.step(r) != api.OK {
					break
				}
			}
			s.crash(r)
			s.open(t, "behind a crash")
		}
	}
}

// P11.4: so it is also where there is little room, as long as there is enough to mend what a crash has spoilt.
func TestFullSessions(t *testing.T) {
	r := chance()
	refusals := 0
	for range 300 {
		s := &session{d: disk.New(r.IntN(12000))}
		s.open(t, "empty")
		for range 6 {
			for range r.IntN(60) {
				e := s.step(r)
				if e == api.ErrFull {
					refusals++
				} else if e != api.OK {
					t.Fatal(e)
				}
			}
			s.d.Crash(samples.AnyPlan(r))
			if _, _, e := logs.Open(s.d.Copy(), "f"); e == api.ErrFull {
				break
			}
			s.open(t, "behind a crash")
		}
	}
	if refusals < 1000 {
		t.Errorf("just %d times there was no room", refusals)
	}
}

// script does things of each sort, up to the first that isn't done.
func script(s *session, r *rand.Rand) {
	do := []func() api.Errno{
		func() api.Errno { return s.append(r) },
		func() api.Errno { return s.append(r) },
		s.sync,
		func() api.Errno { return s.append(r) },
		func() api.Errno { return s.append(r) },
		func() api.Errno { return s.append(r) },
		func() api.Errno { return s.cutTo(2, r) },
		func() api.Errno { return s.append(r) },
		s.sync,
		func() api.Errno { return s.append(r) },
		func() api.Errno { return s.cutTo(0, r) },
		func() api.Errno { return s.append(r) },
		func() api.Errno { return s.append(r) },
		func() api.Errno { return s.cutTo(3, r) },
		func() api.Errno { return s.append(r) },
	}
	for _, f := range do {
		if f() != api.OK {
			return
		}
	}
}

// P11.4: at each thing that a disk does, and by each plan of what is pending there, a crash leaves what was synced; so does another one at each thing that mending does.
func TestEachCrash(t *testing.T) {
	for n := range 45 {
		s := &session{d: disk.New(most)}
		s.open(t, "empty")
		s.d.Fuse(n)
		script(s, chance())
		for keep := range uint64(1) << min(s.d.Pending(), 6) {
			for torn := -1; torn < s.d.Pending(); torn++ {
				for _, cut := range []int{0, 1, 12, 30, 500} {
					eachMending(t, s, api.Plan{Keep: keep, Torn: torn, Cut: cut})
					if torn < 0 {
						break
					}
				}
			}
		}
	}
}

// eachMending checks what is found behind a crash by that plan, and what is found if mending crashes too.
func eachMending(t *testing.T, s *session, p api.Plan) {
	t.Helper()
	what := strconv.Itoa(int(p.Keep)) + " " + strconv.Itoa(p.Torn) + " " + strconv.Itoa(p.Cut)
	d := samples.After(s.d, p)
	for n := 0; ; n++ {
		c := *s
		c.d = d.Copy()
		c.d.Fuse(n)
		if _, _, e := logs.Open(c.d, "f"); e == api.OK {
			c.open(t, what)
			return
		}
		for _, q := range []api.Plan{samples.Keeping(0), samples.Keeping(1), {Torn: 0, Cut: 1}, {Torn: 0, Cut: 13}} {
			c := *s
			c.d = samples.After(d, samples.Keeping(0))
			c.d.Fuse(n)
			logs.Open(c.d, "f")
			c.d.Crash(q)
			c.open(t, what+", and mended just "+strconv.Itoa(n))
		}
	}
}

// P11.4: as long as nothing was synced the first records may miss, but of those that are found each is behind the one ahead.
func TestNothingSynced(t *testing.T) {
	for keep := range uint64(1) << 6 {
		d := disk.New(most)
		put(t, opened(t, "empty", d, 1), "a", "b", "c", "d", "e", "f")
		d.Crash(samples.Keeping(keep))
		first := 0
		for first < 6 && keep>>first&1 == 0 {
			first++
		}
		end := first
		for keep>>end&1 == 1 {
			end++
		}
		next := uint64(end + 1)
		if keep == 0 {
			next, end = 1, first
		}
		opened(t, strconv.FormatUint(keep, 2), d, next, []string{"a", "b", "c", "d", "e", "f"}[first:end]...)
	}
}

// P11.4: of a record that is torn nothing is found, wherever it is cut, nor of what stands behind it; what is put in its place is.
func TestTorn(t *testing.T) {
	torn := record(3, "torn")
	for cut := range len(torn) + 2 {
		for _, keep := range []uint64{0, 2} {
			d := diskOf("f.1", run(1, "a", "b"))
			l := opened(t, "ahead", d, 3, "a", "b")
			put(t, l, "torn", "behind")
			d.Crash(api.Plan{Torn: 0, Cut: cut, Keep: keep})
			want := []string{"a", "b"}
			if cut >= len(torn) {
				want = append(want, "torn")
				if keep == 2 {
					want = append(want, "behind")
				}
			}
			l = opened(t, "torn at "+strconv.Itoa(cut), d, uint64(len(want)+1), want...)
			put(t, l, "new")
			l.Sync()
			opened(t, "torn at "+strconv.Itoa(cut), samples.After(d, samples.Keeping(0)), uint64(len(want)+2), append(want, "new")...)
		}
	}
}

// P11.4: nothing of a log is told of a nil one.
func TestNilLog(t *testing.T) {
	var l *logs.Log
	samples.Told(t, "nil", api.ErrNil, l.Append(nil), l.Append([]byte("a")), l.Cut(nil), l.Cut(listed("a")))
	l.Sync()
	if l.Next() != 0 {
		t.Error(l.Next())
	}
}
