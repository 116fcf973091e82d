package reqs_test

import (
	"encoding/binary"
	"math"
	"math/rand/v2"
	"slices"
	"testing"

	"consistory/api"
	"consistory/keys"
	"consistory/reqs"
	"consistory/samples"
)

const (
	clients  = 6    // clients, the administrator among them
	seqs     = 8    // requests of a client
	textRoom = 100  // bytes that are read as a text, at most
	sigRoom  = 1000 // bytes of a signature, at most
	oneRoom  = 2000 // bytes that are read as one of a batch, at most
)

// textOf is the text of r, by the library's numbers, whether or not r is formed.
func textOf(r api.Req) []byte {
	b := []byte{byte(r.Client), byte(r.Seq), byte(r.Op.Kind), byte(r.Op.Key)}
	b = binary.AppendVarint(b, r.Op.A)
	return binary.AppendVarint(b, r.Op.B)
}

// oneOf are the bytes of a request with that text and that signature.
func oneOf(text, sig []byte) []byte {
	return slices.Concat(samples.LengthAnd(text), samples.LengthAnd(sig))
}

// bytesOf are r's bytes, whether or not it is formed.
func bytesOf(r api.Req) []byte {
	return oneOf(textOf(r), r.Sig)
}

// bytesOfBatch are the bytes of l as a batch, whether or not it is formed.
func bytesOfBatch(l []api.Req) []byte {
	var each [][]byte
	for _, r := range l {
		each = append(each, bytesOf(r))
	}
	return samples.CountAnd(uint64(len(l)), each...)
}

// put is a request of a key and a number, that nobody signed.
func put(client, seq int) api.Req {
	return api.Req{Client: client, Seq: seq, Op: samples.OpOf(client)}
}

// formedReqs are requests that are formed, with signatures that are bytes of any sort.
func formedReqs() []api.Req {
	r := chance()
	var l []api.Req
	for i, op := range samples.RightOps() {
		n := []int{0, 1, 127, 128, 657, 999, sigRoom}[i%7]
		l = append(l, api.Req{Client: 1 + i%5, Seq: 1 + i%seqs, Op: op, Sig: samples.Text(r, n)})
	}
	for i, a := range []int64{0, 1, 15, 31, 127, 128, 0x8015, 65534, 65535} {
		l = append(l, api.Req{Client: 0, Seq: 1 + i%seqs, Op: api.Op{Kind: api.KView, A: a}, Sig: samples.Text(r, 100*i)})
	}
	return l
}

// wrongReqs are requests that aren't formed, each by one thing alone, of which the bytes can tell it.
func wrongReqs() []api.Req {
	var l []api.Req
	for _, client := range []int{6, 7, 16, 127, 128, 255} {
		l = append(l, put(client, 1))
	}
	for _, seq := range []int{0, 9, 10, 16, 128, 255} {
		l = append(l, put(0, seq), put(1, seq), put(5, seq))
	}
	for _, op := range samples.WrongOps() {
		l = append(l, api.Req{Client: 1, Seq: 1, Op: op}, api.Req{Client: 5, Seq: 8, Op: op})
	}
	for _, op := range samples.WrongAdminOps() {
		l = append(l, api.Req{Client: 0, Seq: 1, Op: op})
	}
	return l
}

// farReqs are requests that aren't formed by a number that a byte can't tell, such of which the lowest byte would be right among them, or by the length of the signature.
func farReqs() []api.Req {
	var l []api.Req
	for _, x := range append(samples.Numbers(), 256+1, 1<<32+1, -255, math.MinInt+1) {
		if x < 0 || x > 255 {
			l = append(l, put(x, 1), put(1, x), put(0, x))
			l = append(l, api.Req{Client: 1, Seq: 1, Op: api.Op{Kind: x}}, api.Req{Client: 1, Seq: 1, Op: api.Op{Kind: api.KPut, Key: x}})
			l = append(l, api.Req{Client: 0, Seq: 1, Op: api.Op{Kind: x}}, api.Req{Client: 0, Seq: 1, Op: api.Op{Kind: api.KView, Key: x}})
		}
	}
	for _, n := range []int{sigRoom + 1, sigRoom + 2, oneRoom, api.MaxText, api.MaxText + 1} {
		for client := range clients {
			r := put(client, 1)
			r.Sig = make([]byte, n)
			l = append(l, r)
		}
	}
	return l
}

// same tells whether both requests are one: no signature is one with nil.
func same(r, s api.Req) bool {
	return r.Client == s.Client && r.Seq == s.Seq && r.Op == s.Op && slices.Equal(r.Sig, s.Sig)
}

// sameAll tells whether both lists have the same requests, one by one.
func sameAll(l, m []api.Req) bool {
	return slices.EqualFunc(l, m, same)
}

// isZero tells whether nothing is told of r.
func isZero(r api.Req) bool {
	return same(r, api.Req{})
}

// signed is r with the signature by that leaf of its client's tree.
func signed(t *testing.T, master api.Hash, leaf int, r api.Req) api.Req {
	t.Helper()
	r.Sig = nil
	sig, e := keys.Sign(keys.Seed(master, r.Client), leaf, textOf(r))
	if e != api.OK {
		t.Fatalf("%v isn't signed: %v", r, e)
	}
	r.Sig = sig
	return r
}

// own is r, signed as its client signs it.
func own(t *testing.T, master api.Hash, r api.Req) api.Req {
	t.Helper()
	return signed(t, master, r.Seq-1, r)
}

// refusedGet checks that b tells no request, but the error want.
func refusedGet(t *testing.T, what string, b []byte, want api.Errno) {
	t.Helper()
	if r, e := reqs.Get(b); e != want || !isZero(r) {
		t.Errorf("%s: %v, %v; want %v", what, r, e, want)
	}
}

// refusedBatch checks that b tells no batch, but the error want.
func refusedBatch(t *testing.T, what string, b []byte, want api.Errno) {
	t.Helper()
	if l, e := reqs.GetBatch(b); e != want || len(l) != 0 {
		t.Errorf("%s: %v, %v; want %v", what, l, e, want)
	}
	// Keys of nobody: what is wrong with the bytes is told ahead of them.
	if l, e := reqs.CheckBatch(api.Keys{}, b); e != want || len(l) != 0 {
		t.Errorf("%s, checked: %v, %v; want %v", what, l, e, want)
	}
}

// refusedCheck checks that the batch of b isn't right by k, but the error want.
func refusedCheck(t *testing.T, what string, k api.Keys, b []byte, want api.Errno) {
	t.Helper()
	if l, e := reqs.CheckBatch(k, b); e != want || len(l) != 0 {
		t.Errorf("%s: %v, %v; want %v", what, l, e, want)
	}
}

// chance is a source of numbers that is always the same.
func chance() *rand.Rand {
	return rand.New(rand.NewPCG(7, 6))
}
