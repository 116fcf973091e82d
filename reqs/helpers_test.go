package reqs_test

import (
	"encoding/binary"
	"math/rand/v2"
	"slices"
	"testing"

	"consistory/api"
	"consistory/keys"
	"consistory/reqs"
	"consistory/samples"
)

const (
	clients = 6 // clients, the administrator among them
	seqs    = 8 // requests of a client
)

// textOf is the text of r, by the library's numbers, whether or not r is formed.
func textOf(r api.Req) []byte {
	b := []byte{byte(r.Client), byte(r.Seq), byte(r.Op.Kind), byte(r.Op.Key)}
	b = binary.AppendVarint(b, r.Op.A)
	return binary.AppendVarint(b, r.Op.B)
}

// oneOf are the bytes of a request with that text and that signature.
func oneOf(text, sig []byte) []byte {
	return slices.Concat(samples.LengthAnd(text), samples.LengthAnd(sig))
}

// bytesOf are r's bytes, whether or not it is formed.
func bytesOf(r api.Req) []byte {
	return oneOf(textOf(r), r.Sig)
}

// bytesOfBatch are the bytes of l as a batch, whether or not it is formed.
func bytesOfBatch(l []api.Req) []byte {
	var each [][]byte
	for _, r := range l {
		each = append(each, bytesOf(r))
	}
	return samples.CountAnd(uint64(len(l)), each...)
}

// put is a request of which the op is right, and that nobody signed.
func put(client, seq int) api.Req {
	return samples.ReqOf(client, seq)
}

// isZero tells whether nothing is told of r.
func isZero(r api.Req) bool {
	return samples.SameReq(r, api.Req{})
}

// signed is r with the signature by that leaf of its client's tree.
func signed(t *testing.T, master api.Hash, leaf int, r api.Req) api.Req {
	t.Helper()
	r.Sig = nil
	sig, e := keys.Sign(keys.Seed(master, r.Client), leaf, textOf(r))
	if e != api.OK {
		t.Fatalf("%v isn't signed: %v", r, e)
	}
	r.Sig = sig
	return r
}

// own is r, signed as its client signs it.
func own(t *testing.T, master api.Hash, r api.Req) api.Req {
	t.Helper()
	return signed(t, master, r.Seq-1, r)
}

// refusedGet checks that b tells no request, but the error want.
func refusedGet(t *testing.T, what string, b []byte, want api.Errno) {
	t.Helper()
	if r, e := reqs.Get(b); e != want || !isZero(r) {
		t.Errorf("%s: %v, %v; want %v", what, r, e, want)
	}
}

// refusedBatch checks that b tells no batch, but the error want.
func refusedBatch(t *testing.T, what string, b []byte, want api.Errno) {
	t.Helper()
	if l, e := reqs.GetBatch(b); e != want || len(l) != 0 {
		t.Errorf("%s: %v, %v; want %v", what, l, e, want)
	}
	// Keys of nobody: what is wrong with the bytes is told ahead of them.
	if l, e := reqs.CheckBatch(api.Keys{}, b); e != want || len(l) != 0 {
		t.Errorf("%s, checked: %v, %v; want %v", what, l, e, want)
	}
}

// refusedCheck checks that the batch of b isn't right by k, but the error want.
func refusedCheck(t *testing.T, what string, k api.Keys, b []byte, want api.Errno) {
	t.Helper()
	if l, e := reqs.CheckBatch(k, b); e != want || len(l) != 0 {
		t.Errorf("%s: %v, %v; want %v", what, l, e, want)
	}
}

// chance is a source of numbers that is always the same.
func chance() *rand.Rand {
	return rand.New(rand.NewPCG(7, 6))
}
