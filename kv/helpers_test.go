package kv_test

import (
	"encoding/binary"
	"math/rand/v2"
	"slices"
	"testing"

	"consistory/api"
	"consistory/kv"
	"consistory/samples"
)

const (
	keys  = 16        // keys that there are
	allOf = 1<<16 - 1 // the set of all of them, a bit each
	kinds = 5         // kinds of ops that do something, from 1 on
)

// values are those of all keys.
type values = [keys]api.Cell

// value is the cell of a key that has the value n.
func value(n int64) api.Cell {
	return api.Cell{There: true, N: n}
}

// only is the values of which just the key has one, or none.
func only(key int, cell api.Cell) values {
	var c values
	c[key] = cell
	return c
}

// states are cells of a key: without a value, and with values at the ends.
func states() []api.Cell {
	l := []api.Cell{{}}
	for _, n := range samples.Ends() {
		l = append(l, value(n))
	}
	return l
}

// pair is the bytes of a key and its value, by the library's numbers.
func pair(key byte, n int64) []byte {
	return binary.AppendVarint([]byte{key}, n)
}

// listed are the bytes of so many pairs, and these; n may be another number than they are.
func listed(n uint64, pairs ...[]byte) []byte {
	return append(binary.AppendUvarint(nil, n), slices.Concat(pairs...)...)
}

// refusedGet checks that b tells no values, but the error want.
func refusedGet(t *testing.T, what string, b []byte, want api.Errno) {
	t.Helper()
	if c, e := kv.Get(b); e != want || c != (values{}) {
		t.Errorf("%s: % x is %v, %v; want %v", what, b, c, e, want)
	}
}

// comes checks what op, done to c, comes to, and which values are behind it.
func comes(t *testing.T, c values, op api.Op, behind values, want api.Res) {
	t.Helper()
	if d, res := kv.Do(c, op); d != behind || res != want {
		t.Errorf("%v of %v: %v and %v; want %v and %v", op, c, d, res, behind, want)
	}
}

// chance is a source of numbers that is always the same.
func chance() *rand.Rand {
	return rand.New(rand.NewPCG(14, 5))
}
