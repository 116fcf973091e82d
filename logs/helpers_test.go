package logs_test

import (
	"bytes"
	"crypto/sha256"
	"encoding/binary"
	"math/rand/v2"
	"slices"
	"testing"

	"consistory/api"
	"consistory/disk"
	"consistory/logs"
	"consistory/samples"
)

const (
	full    = 2048    // bytes of a segment that gets no further record
	most    = 1 << 20 // bytes of a disk
	highest = 1<<64 - 1
)

// summed is b and the first eight bytes of the library's digest of it.
func summed(b string) string {
	sum := sha256.Sum256([]byte(b))
	return b + string(sum[:8])
}

// record is a record's bytes.
func record(number uint64, text string) string {
	return summed(string(binary.AppendUvarint(nil, number)) + string(samples.LengthAnd([]byte(text))))
}

// run is the bytes of records of these texts, from that number on.
func run(number uint64, texts ...string) string {
	s := ""
	for _, text := range texts {
		s += record(number, text)
		number++
	}
	return s
}

// sized is a text of which the record has so many bytes, if its number is below 128 and it isn't a short one.
func sized(bytes int) string {
	return string(make([]byte, bytes-11))
}

// listed are the texts as lists of bytes.
func listed(texts ...string) [][]byte {
	l := make([][]byte, len(texts))
	for i, text := range texts {
		l[i] = []byte(text)
	}
	return l
}

// same tells whether those are the texts.
func same(l [][]byte, texts []string) bool {
	return slices.EqualFunc(l, listed(texts...), bytes.Equal)
}

// diskOf is a disk that has those files synced, each name with its bytes behind it.
func diskOf(pairs ...string) *disk.Disk {
	return samples.Filled(disk.New(most), pairs...)
}

// opened is the log f of d, which is opened without an error, has that next number, and those texts.
func opened(t *testing.T, what string, d *disk.Disk, next uint64, texts ...string) *logs.Log {
	t.Helper()
	l, got, e := logs.Open(d, "f")
	if e != api.OK || l == nil {
		t.Fatalf("%s: it isn't opened: %v", what, e)
	}
	if !same(got, texts) || l.Next() != next {
		t.Errorf("%s: %.500q, and then %d; want %.500q, and then %d", what, got, l.Next(), texts, next)
	}
	return l
}

// refused checks that a log of that prefix isn't opened, by that error.
func refused(t *testing.T, what string, d *disk.Disk, prefix string, want api.Errno) {
	t.Helper()
	if l, texts, e := logs.Open(d, prefix); e != want || l != nil || len(texts) != 0 {
		t.Errorf("%s: %v, %.200q, %v; want %v", what, l != nil, texts, e, want)
	}
}

// put appends texts to a log that takes them.
func put(t *testing.T, l *logs.Log, texts ...string) {
	t.Helper()
	for _, text := range texts {
		samples.Told(t, "append", api.OK, l.Append([]byte(text)))
	}
}

// chance is a source of numbers that is always the same.
func chance() *rand.Rand {
	return rand.New(rand.NewPCG(11, 4))
}
