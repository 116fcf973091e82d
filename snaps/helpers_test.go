package snaps_test

import (
	"crypto/sha256"
	"math/rand/v2"
	"strings"
	"testing"

	"consistory/api"
	"consistory/disk"
	"consistory/samples"
	"consistory/snaps"
)

const (
	longest  = 16      // bytes of a snap's name
	greatest = 1 << 16 // bytes of a snap's text
	most     = 1 << 20 // bytes of a disk
)

// summed is b and the first eight bytes of the library's digest of it.
func summed(b string) string {
	sum := sha256.Sum256([]byte(b))
	return b + string(sum[:8])
}

// snap is the bytes of a text's snap.
func snap(text string) string {
	return summed(string(samples.LengthAnd([]byte(text))))
}

// diskOf is a disk that has those files synced, each name with its bytes behind it.
func diskOf(pairs ...string) *disk.Disk {
	return samples.Filled(disk.New(most), pairs...)
}

// wrongNames are names that no snap has; a disk's files may have most of them.
func wrongNames() []string {
	return []string{
		"", strings.Repeat("s", longest+1), strings.Repeat("s", 20), strings.Repeat("s", 24), strings.Repeat("s", 25), strings.Repeat("s", 256+3),
		"S", "A", "Z", "sNap", "snaP", "0", "s1", "1s", "s.new", ".new", "s.", ".s", ".", " s", "s ", "s s", "s-s", "s_s", "s/s",
		"\x00", "s\x00", "\x00s", "s`", "`", "{", "{s", "é", "sé", "és", "\xff", "s\x80", "\x80s", "ſ", "ａ",
	}
}

// rightNames are names of all lengths, and of all signs that one may have.
func rightNames() []string {
	l := []string{"abcdefghijklmnop", "klmnopqrstuvwxyz", strings.Repeat("z", longest), "az", "za", "new", "snew"}
	for n := 1; n <= longest; n++ {
		l = append(l, strings.Repeat("s", n))
	}
	for sign := 'a'; sign <= 'z'; sign++ {
		l = append(l, string(sign))
	}
	return l
}

// save saves texts one behind the other by a name, and each is saved.
func save(t *testing.T, d *disk.Disk, name string, texts ...string) {
	t.Helper()
	for _, text := range texts {
		samples.Told(t, "save "+name, api.OK, snaps.Save(d, name, []byte(text)))
	}
}

// loaded checks that the snap of that name is there, and has that text.
func loaded(t *testing.T, what string, d *disk.Disk, name, want string) {
	t.Helper()
	if got, e := snaps.Load(d, name); e != api.OK || string(got) != want {
		t.Errorf("%s: %q has %.200q, %v; want %.200q", what, name, got, e, want)
	}
}

// refused checks that nothing is loaded by that name, and that this error tells why.
func refused(t *testing.T, what string, d *disk.Disk, name string, want api.Errno) {
	t.Helper()
	if got, e := snaps.Load(d, name); e != want || len(got) != 0 {
		t.Errorf("%s: %q has %.200q, %v; want %v", what, name, got, e, want)
	}
}

// stays checks that each call answers the error want, and changes nothing that is read of d, synced on it, or pending.
func stays(t *testing.T, what string, d *disk.Disk, want api.Errno, calls ...func() api.Errno) {
	t.Helper()
	before := samples.State(d)
	for i, call := range calls {
		if e := call(); e != want {
			t.Errorf("%s: call %d tells %v; want %v", what, i, e, want)
		}
		if got := samples.State(d); got != before {
			t.Errorf("%s: call %d makes of %.500s %.500s", what, i, before, got)
		}
	}
}

// chance is a source of numbers that is always the same.
func chance() *rand.Rand {
	return rand.New(rand.NewPCG(12, 3))
}
