package reqs_test

import (
	"bytes"
	"math"
	"slices"
	"testing"

	"consistory/api"
	"consistory/reqs"
	"consistory/samples"
)

// P7.1: texts written out by hand.
func TestTextKnown(t *testing.T) {
	for _, c := range []struct {
		r    api.Req
		want []byte
	}{
		{api.Req{Client: 1, Seq: 2, Op: api.Op{Kind: api.KPut, Key: 3, A: 5}}, []byte{1, 2, 2, 3, 10, 0}},
		{api.Req{Client: 5, Seq: 8, Op: api.Op{Kind: api.KGet, Key: 15}}, []byte{5, 8, 1, 15, 0, 0}},
		{api.Req{Client: 2, Seq: 1, Op: api.Op{Kind: api.KCas, A: -3, B: 150}}, []byte{2, 1, 4, 0, 5, 0xac, 2}},
		{api.Req{Client: 0, Seq: 1, Op: api.Op{Kind: api.KView, A: 65535}}, []byte{0, 1, 6, 0, 0xfe, 0xff, 7, 0}},
		{api.Req{Client: 3, Seq: 4, Op: api.Op{Kind: api.KAdd, Key: 1, A: math.MinInt64}}, []byte{3, 4, 3, 1, 0xff, 0xff, 0xff, 0xff, 0xff, 0xff, 0xff, 0xff, 0xff, 1, 0}},
		{api.Req{Client: 4, Seq: 3, Op: api.Op{Kind: api.KDel, Key: 2}, Sig: []byte{9, 9}}, []byte{4, 3, 5, 2, 0, 0}},
	} {
		if got := reqs.Text(c.r); !bytes.Equal(got, c.want) {
			t.Errorf("%v: % x; want % x", c.r, got, c.want)
		}
	}
}

// P7.1: bytes written out by hand.
func TestPutKnown(t *testing.T) {
	r := api.Req{Client: 1, Seq: 2, Op: api.Op{Kind: api.KPut, Key: 3, A: 5}}
	for _, sig := range [][]byte{nil, {7}, {7, 8, 9}} {
		r.Sig = sig
		want := append([]byte{6, 1, 2, 2, 3, 10, 0, byte(len(sig))}, sig...)
		if got, e := reqs.Put(r); e != api.OK || !bytes.Equal(got, want) {
			t.Errorf("% x, %v; want % x", got, e, want)
		}
	}
	r.Sig = make([]byte, 300)
	if got, e := reqs.Put(r); e != api.OK || len(got) != 309 || !bytes.Equal(got[:9], []byte{6, 1, 2, 2, 3, 10, 0, 0xac, 2}) {
		t.Errorf("% x, %v", got, e)
	}
}

// P7.1: of each request that is formed the text, which hangs on no signature, and the bytes; and it is got from them.
func TestFormed(t *testing.T) {
	for _, r := range samples.FormedReqs(chance()) {
		if got := reqs.Text(r); !bytes.Equal(got, textOf(r)) {
			t.Errorf("%v: the text % x", r, got)
		}
		b, e := reqs.Put(r)
		if e != api.OK || !bytes.Equal(b, bytesOf(r)) {
			t.Errorf("%v: % x, %v", r, b, e)
		}
		if got, e := reqs.Get(bytesOf(r)); e != api.OK || !samples.SameReq(got, r) {
			t.Errorf("%v is got as %v, %v", r, got, e)
		}
	}
}

// P7.1: each client and each number of a request that there may be, and those around them.
func TestFormedNumbers(t *testing.T) {
	for client := -1; client < 8; client++ {
		for seq := -1; seq < 11; seq++ {
			r := put(client, seq)
			want := client >= 0 && client <= 5 && seq >= 1 && seq <= 8
			if got := reqs.Text(r); (len(got) > 0) != want {
				t.Errorf("%v: the text % x", r, got)
			}
			if _, e := reqs.Put(r); (e == api.OK) != want {
				t.Errorf("%v: %v", r, e)
			}
		}
	}
}

// P7.1: one that isn't formed has neither a text nor bytes.
func TestNotFormed(t *testing.T) {
	for _, r := range append(samples.WrongReqs(), samples.FarReqs()...) {
		if got := reqs.Text(r); len(got) != 0 {
			t.Errorf("%v: the text % x", r, got)
		}
		if got, e := reqs.Put(r); e != api.ErrArg || len(got) != 0 {
			t.Errorf("%v: % x, %v", r, got, e)
		}
	}
}

// P7.1: bytes that tell a request that isn't formed are refused, wherever all else is right.
func TestGetOfNotFormed(t *testing.T) {
	for _, r := range samples.WrongReqs() {
		r.Sig = []byte{1, 2, 3}
		refusedGet(t, "not formed", bytesOf(r), api.ErrArg)
	}
}

// P7.1: bytes that end anywhere within are too short.
func TestGetShort(t *testing.T) {
	for _, r := range []api.Req{
		{Client: 1, Seq: 2, Op: api.Op{Kind: api.KCas, Key: 3, A: math.MinInt64, B: math.MaxInt64}, Sig: make([]byte, 200)},
		put(0, 1),
		put(9, 0),
	} {
		b := bytesOf(r)
		for n := range b {
			refusedGet(t, "cut", b[:n], api.ErrShort)
		}
	}
	refusedGet(t, "nil", nil, api.ErrShort)
	refusedGet(t, "nothing", []byte{}, api.ErrShort)
}

// P7.1: bytes that are left are refused, ahead of whether what is told is formed.
func TestGetLeft(t *testing.T) {
	for _, r := range []api.Req{put(1, 1), put(0, 8), put(6, 1), put(1, 0)} {
		for _, n := range []int{1, 2, 300} {
			refusedGet(t, "bytes left", append(bytesOf(r), make([]byte, n)...), api.ErrForm)
		}
	}
}

// P7.1: the text has at most 100 bytes, the signature at most 1000: the length that is above is met ahead of bytes that aren't there.
func TestGetBounds(t *testing.T) {
	text := textOf(put(1, 1))
	refusedGet(t, "101 bytes of text, and none of them", []byte{101}, api.ErrRange)
	refusedGet(t, "100 bytes of text, and none of them", []byte{100}, api.ErrShort)
	refusedGet(t, "101 bytes of text", oneOf(append(slices.Clone(text), make([]byte, 95)...), nil), api.ErrRange)
	refusedGet(t, "100 bytes of text", oneOf(append(slices.Clone(text), make([]byte, 94)...), nil), api.ErrForm)
	refusedGet(t, "2^64 - 1 bytes of text", append(bytes.Repeat([]byte{0xff}, 9), 1), api.ErrRange)
	refusedGet(t, "1001 bytes of signature", oneOf(text, make([]byte, 1001)), api.ErrRange)
	refusedGet(t, "1001 bytes of signature, and none of them", append(samples.LengthAnd(text), 0xe9, 7), api.ErrRange)
	refusedGet(t, "1000 bytes of signature, and none of them", append(samples.LengthAnd(text), 0xe8, 7), api.ErrShort)
	refusedGet(t, "1000 bytes of signature, and 999 of them", oneOf(text, make([]byte, 1000))[:len(text)+2+1000], api.ErrShort)
	if r, e := reqs.Get(oneOf(text, make([]byte, 1000))); e != api.OK || len(r.Sig) != 1000 {
		t.Errorf("1000 bytes of signature: %v, %v", r, e)
	}
}

// P7.1: numbers that aren't told by as few bytes as can be are refused, wherever they stand.
func TestGetLongNumbers(t *testing.T) {
	refusedGet(t, "the text's length", []byte{0x86, 0, 1, 2, 2, 3, 10, 0, 0}, api.ErrForm)
	refusedGet(t, "the signature's length", []byte{6, 1, 2, 2, 3, 10, 0, 0x80, 0}, api.ErrForm)
	refusedGet(t, "A", []byte{7, 1, 2, 2, 3, 0x8a, 0, 0, 0}, api.ErrForm)
	refusedGet(t, "B", []byte{7, 1, 2, 2, 3, 10, 0x80, 0, 0}, api.ErrForm)
	refusedGet(t, "A of 65 bits", oneOf([]byte{1, 2, 2, 3, 0xff, 0xff, 0xff, 0xff, 0xff, 0xff, 0xff, 0xff, 0xff, 2, 0}, nil), api.ErrForm)
}

// P7.1: a text that ends within is too short, one with bytes left isn't formed so; both are met ahead of what is behind the text.
func TestGetWithinText(t *testing.T) {
	r := api.Req{Client: 1, Seq: 2, Op: api.Op{Kind: api.KCas, Key: 3, A: 1 << 40, B: -1 << 40}}
	text := textOf(r)
	tails := map[string][]byte{
		"no signature":     {0},
		"a signature":      {3, 1, 2, 3},
		"nothing":          {},
		"a short one":      {3, 1, 2},
		"a long one":       {0xe9, 7},
		"a long number":    {0x80, 0},
		"bytes left":       {0, 0},
		"a number cut off": {0x80},
	}
	for what, tail := range tails {
		for n := range text {
			refusedGet(t, "a text cut, behind it "+what, append(samples.LengthAnd(text[:n]), tail...), api.ErrShort)
		}
		for _, n := range []int{1, 2, 80} {
			longer := append(slices.Clone(text), make([]byte, n)...)
			refusedGet(t, "bytes left in a text, behind it "+what, append(samples.LengthAnd(longer), tail...), api.ErrForm)
		}
		long := []byte{1, 2, 2, 3, 0x8a, 0, 0}
		refusedGet(t, "a long number in a text, behind it "+what, append(samples.LengthAnd(long), tail...), api.ErrForm)
	}
}

// P7.1: what is wrong with the signature is met ahead of whether what is told is formed.
func TestGetSignatureFirst(t *testing.T) {
	for _, r := range []api.Req{put(6, 1), put(1, 9), {Client: 1, Seq: 1, Op: api.Op{Kind: api.KGet, A: 1}}} {
		text := samples.LengthAnd(textOf(r))
		refusedGet(t, "no signature", text, api.ErrShort)
		refusedGet(t, "a short one", append(slices.Clone(text), 3, 1, 2), api.ErrShort)
		refusedGet(t, "a long one", oneOf(textOf(r), make([]byte, 1001)), api.ErrRange)
		refusedGet(t, "bytes left", append(slices.Clone(text), 0, 0), api.ErrForm)
		refusedGet(t, "all is there", append(slices.Clone(text), 0), api.ErrArg)
	}
}

// P7.1: what is got from any bytes is formed.
func TestGetOfAnyBytes(t *testing.T) {
	r := chance()
	got := 0
	for range 50000 {
		text := []byte{byte(r.IntN(7)), byte(r.IntN(10)), byte(r.IntN(8)), byte(r.IntN(18))}
		text = append(text, samples.Text(r, 1+r.IntN(3))...)
		text = append(text, 0)
		s, e := reqs.Get(oneOf(text, samples.Text(r, r.IntN(3))))
		if e == api.OK {
			got++
			if len(reqs.Text(s)) == 0 || !bytes.Equal(reqs.Text(s), text) {
				t.Errorf("% x: %v", text, s)
			}
		} else if !isZero(s) {
			t.Errorf("% x: %v beside %v", text, s, e)
		}
	}
	if got == 0 {
		t.Error("no request was got")
	}
}
