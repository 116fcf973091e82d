package sha_test

import (
	"math"
	"testing"

	"consistory/api"
	"consistory/samples"
	"consistory/sha"
)

// P2.2: the digest is taken n times.
func TestChain(t *testing.T) {
	r := chance()
	for _, h := range []api.Hash{{}, sha.Sum(nil), samples.Hash(r), samples.Hash(r)} {
		want := h
		for n := range 70 {
			if got := sha.Chain(h, n); got != want {
				t.Errorf("of %x, %d times: %x; want %x", h, n, got, want)
			}
			want = reference(want[:])
		}
	}
}

// P2.2: of n below 1 it is h itself.
func TestChainBelowOne(t *testing.T) {
	h := samples.Hash(chance())
	for _, n := range []int{0, -1, -2, -4096, -4097, math.MinInt32, math.MinInt + 1, math.MinInt} {
		if got := sha.Chain(h, n); got != h {
			t.Errorf("%d times: %x; want %x", n, got, h)
		}
	}
}

// P2.2: the digest is taken no more than 4096 times.
func TestChainBeyond(t *testing.T) {
	h := samples.Hash(chance())
	want := h
	for range 4095 {
		want = reference(want[:])
	}
	if got := sha.Chain(h, 4095); got != want {
		t.Errorf("4095 times: %x; want %x", got, want)
	}
	want = reference(want[:])
	for _, n := range []int{4096, 4097, 4098, 8192, 1 << 16, 1<<32 + 1, math.MaxInt32, math.MaxInt - 1, math.MaxInt} {
		if got := sha.Chain(h, n); got != want {
			t.Errorf("%d times: %x; want %x", n, got, want)
		}
	}
}

// P2.3: Chain of Chain is Chain of the sum, up to 4096.
func TestChainOfChain(t *testing.T) {
	r := chance()
	h := samples.Hash(r)
	check := func(m, n int) {
		t.Helper()
		if got, want := sha.Chain(sha.Chain(h, m), n), sha.Chain(h, m+n); got != want {
			t.Errorf("%d times, then %d: %x; want %x", m, n, got, want)
		}
	}
	for range 40 {
		m := r.IntN(4097)
		check(m, r.IntN(4097-m))
		check(m, 4096-m)
	}
	for m := range 20 {
		for n := range 20 {
			check(m, n)
		}
	}
	check(4096, 0)
	check(0, 4096)
	if sha.Chain(sha.Chain(h, 4096), 1) == sha.Chain(h, 4097) {
		t.Error("beyond 4096 the sum is gone on with")
	}
}
