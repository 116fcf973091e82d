package reqs_test

import (
	"bytes"
	"slices"
	"testing"

	"consistory/api"
	"consistory/keys"
	"consistory/reqs"
	"consistory/samples"
)

// formedBatches are batches that are formed.
func formedBatches() [][]api.Req {
	l := [][]api.Req{
		{put(1, 1)},
		{put(0, 8)},
		{put(1, 1), put(1, 2)},
		{put(1, 1), put(1, 8)},
		{put(2, 1), put(1, 1)},
		{put(1, 8), put(2, 1)},
		{put(1, 1), put(2, 1), put(1, 2), put(2, 2)},
		{put(1, 5), put(1, 6), put(1, 7), put(1, 8)},
		{put(5, 1), put(0, 1), put(3, 8), put(0, 2)},
		{put(3, 3), put(4, 1), put(5, 1), put(3, 4)},
	}
	r := chance()
	all := samples.FormedReqs(chance())
	for range 200 {
		var batch []api.Req
		for client := range 1 + r.IntN(4) {
			one := all[r.IntN(len(all))]
			one.Client, one.Op = client, samples.OpOf(client)
			batch = append(batch, one)
		}
		r.Shuffle(len(batch), func(i, j int) { batch[i], batch[j] = batch[j], batch[i] })
		l = append(l, batch)
	}
	return l
}

// wrongBatches are batches that aren't formed, by the order of their requests, of which each is.
func wrongBatches() [][]api.Req {
	return [][]api.Req{
		{put(1, 1), put(1, 1)},
		{put(1, 2), put(1, 1)},
		{put(0, 2), put(0, 1)},
		{put(0, 8), put(0, 8)},
		{put(1, 2), put(2, 1), put(1, 1)},
		{put(1, 2), put(2, 1), put(1, 2)},
		{put(1, 1), put(1, 3), put(1, 2)},
		{put(1, 1), put(1, 3), put(1, 3)},
		{put(1, 8), put(2, 1), put(3, 1), put(1, 7)},
		{put(5, 1), put(0, 1), put(3, 8), put(3, 8)},
		{put(2, 1), put(1, 1), put(1, 2), put(1, 1)},
	}
}

// P7.3: bytes written out by hand.
func TestPutBatchKnown(t *testing.T) {
	l := []api.Req{
		{Client: 1, Seq: 2, Op: api.Op{Kind: api.KPut, Key: 3, A: 5}, Sig: []byte{7}},
		{Client: 0, Seq: 1, Op: api.Op{Kind: api.KView, A: 31}},
	}
	want := []byte{2, 9, 6, 1, 2, 2, 3, 10, 0, 1, 7, 8, 6, 0, 1, 6, 0, 62, 0, 0}
	if got, e := reqs.PutBatch(l); e != api.OK || !bytes.Equal(got, want) {
		t.Errorf("% x, %v; want % x", got, e, want)
	}
	if got, e := reqs.GetBatch(want); e != api.OK || !samples.SameReqs(got, l) {
		t.Errorf("%v, %v; want %v", got, e, l)
	}
}

// P7.3: each batch that is formed is put, and got.
func TestBatches(t *testing.T) {
	for _, l := range formedBatches() {
		if got, e := reqs.PutBatch(l); e != api.OK || !bytes.Equal(got, bytesOfBatch(l)) {
			t.Errorf("%v: % x, %v", l, got, e)
		}
		if got, e := reqs.GetBatch(bytesOfBatch(l)); e != api.OK || !samples.SameReqs(got, l) {
			t.Errorf("%v is got as %v, %v", l, got, e)
		}
	}
}

// P7.3: one that isn't formed has no bytes: neither none nor too many requests, none that isn't formed, and of each client they rise.
func TestPutBatchOfWrong(t *testing.T) {
	wrong := append(wrongBatches(), nil, []api.Req{}, []api.Req{put(1, 1), put(2, 1), put(3, 1), put(4, 1), put(5, 1)}, make([]api.Req, 3), make([]api.Req, 1000))
	for _, r := range append(samples.WrongReqs(), samples.FarReqs()...) {
		wrong = append(wrong, []api.Req{r}, []api.Req{put(1, 1), put(1, 2), put(4, 5), r}, []api.Req{r, put(2, 3)})
	}
	for i, l := range wrong {
		if got, e := reqs.PutBatch(l); e != api.ErrArg || len(got) != 0 {
			t.Errorf("%d: % x, %v", i, got, e)
		}
	}
}

// P7.3: nor is it got, where all else is right.
func TestGetBatchOfWrong(t *testing.T) {
	for _, l := range wrongBatches() {
		refusedBatch(t, "not formed", bytesOfBatch(l), api.ErrArg)
	}
	refusedBatch(t, "no requests", []byte{0}, api.ErrArg)
	for _, r := range samples.WrongReqs() {
		refusedBatch(t, "one isn't formed", bytesOfBatch([]api.Req{r}), api.ErrArg)
		refusedBatch(t, "the last one isn't formed", bytesOfBatch([]api.Req{put(4, 1), put(3, 1), r}), api.ErrArg)
	}
}

// P7.3: every two numbers of one client, apart or not: the later one has the greater.
func TestBatchRising(t *testing.T) {
	for first := 1; first <= seqs; first++ {
		for second := 1; second <= seqs; second++ {
			for _, client := range []int{0, 1, 5} {
				want := api.ErrArg
				if first < second {
					want = api.OK
				}
				for _, l := range [][]api.Req{
					{put(client, first), put(client, second)},
					{put(client, first), put(2, 1), put(3, 1), put(client, second)},
				} {
					if _, e := reqs.PutBatch(l); e != want {
						t.Errorf("%v is put: %v", l, e)
					}
					if _, e := reqs.GetBatch(bytesOfBatch(l)); e != want {
						t.Errorf("%v is got: %v", l, e)
					}
				}
			}
		}
	}
}

// P7.3: the number is at most 4, which is met ahead of all that is behind it.
func TestGetBatchNumber(t *testing.T) {
	one := bytesOf(put(1, 1))
	refusedBatch(t, "five", bytesOfBatch([]api.Req{put(1, 1), put(2, 1), put(3, 1), put(4, 1), put(5, 1)}), api.ErrRange)
	refusedBatch(t, "five, and nothing behind", []byte{5}, api.ErrRange)
	refusedBatch(t, "2^64 - 1", append(bytes.Repeat([]byte{0xff}, 9), 1), api.ErrRange)
	refusedBatch(t, "one, told by two bytes", append([]byte{0x81, 0}, samples.LengthAnd(one)...), api.ErrForm)
	refusedBatch(t, "a number cut off", []byte{0x81}, api.ErrShort)
	refusedBatch(t, "nil", nil, api.ErrShort)
	refusedBatch(t, "nothing", []byte{}, api.ErrShort)
	for n := uint64(1); n <= 4; n++ {
		refusedBatch(t, "a number, and nothing behind", samples.CountAnd(n), api.ErrShort)
	}
	refusedBatch(t, "two, and one behind", samples.CountAnd(2, one), api.ErrShort)
	refusedBatch(t, "one, and two behind", samples.CountAnd(1, one, bytesOf(put(1, 2))), api.ErrForm)
	refusedBatch(t, "none, and one behind", samples.CountAnd(0, one), api.ErrForm)
}

// P7.3: bytes that end anywhere within are too short.
func TestGetBatchShort(t *testing.T) {
	for _, l := range [][]api.Req{{put(1, 1)}, {put(0, 1), put(2, 3)}, {put(1, 1), put(1, 1)}} {
		b := bytesOfBatch(l)
		for n := range b {
			refusedBatch(t, "cut", b[:n], api.ErrShort)
		}
	}
}

// P7.3: bytes that are left are refused, ahead of whether the batch is formed.
func TestGetBatchLeft(t *testing.T) {
	for _, l := range append(wrongBatches(), []api.Req{put(1, 1)}, []api.Req{put(1, 1), put(2, 1), put(3, 1), put(4, 1)}, nil) {
		for _, n := range []int{1, 2, 300} {
			refusedBatch(t, "bytes left", append(bytesOfBatch(l), make([]byte, n)...), api.ErrForm)
		}
	}
}

// P7.3: each text has at most 2000 bytes: the length that is above is met ahead of bytes that aren't there, and of what is within.
func TestGetBatchBounds(t *testing.T) {
	refusedBatch(t, "2001 bytes, and none of them", []byte{1, 0xd1, 0x0f}, api.ErrRange)
	refusedBatch(t, "2000 bytes, and none of them", []byte{1, 0xd0, 0x0f}, api.ErrShort)
	refusedBatch(t, "2001 bytes", samples.CountAnd(1, make([]byte, 2001)), api.ErrRange)
	refusedBatch(t, "a length told by too many bytes", append([]byte{1, 0x88, 0}, bytesOf(put(1, 1))...), api.ErrForm)
	one := bytesOf(put(1, 1))
	refusedBatch(t, "2000 bytes, of which a few are a request", samples.CountAnd(1, append(slices.Clone(one), make([]byte, 2000-len(one))...)), api.ErrForm)
	refusedBatch(t, "2001 bytes, of which a few are a request", samples.CountAnd(1, append(slices.Clone(one), make([]byte, 2001-len(one))...)), api.ErrRange)
	r := put(1, 1)
	r.Sig = make([]byte, 1000)
	if l, e := reqs.GetBatch(samples.CountAnd(1, bytesOf(r))); e != api.OK || !samples.SameReqs(l, []api.Req{r}) {
		t.Errorf("1000 bytes of signature: %v, %v", l, e)
	}
	r.Sig = make([]byte, 1001)
	refusedBatch(t, "1001 bytes of signature", samples.CountAnd(1, bytesOf(r)), api.ErrRange)
}

// P7.3: texts are met one by one: what is wrong with an earlier one is told, whatever is wrong with a later one.
func TestGetBatchInOrder(t *testing.T) {
	text := textOf(put(1, 1))
	wrong := []struct {
		one  []byte
		want api.Errno
	}{
		{nil, api.ErrShort},
		{samples.LengthAnd(text), api.ErrShort},
		{append(bytesOf(put(1, 1)), 0), api.ErrForm},
		{oneOf(append(slices.Clone(text), 0), nil), api.ErrForm},
		{oneOf(text, make([]byte, 1001)), api.ErrRange},
		{make([]byte, 2001), api.ErrRange},
		{bytesOf(put(6, 1)), api.ErrArg},
		{bytesOf(put(1, 9)), api.ErrArg},
	}
	for i, first := range wrong {
		refusedBatch(t, "one alone", samples.CountAnd(1, first.one), first.want)
		refusedBatch(t, "one, and none behind", samples.CountAnd(2, first.one), first.want)
		refusedBatch(t, "one, and bytes left", append(samples.CountAnd(1, first.one), 1, 2), first.want)
		refusedBatch(t, "one behind a right one", samples.CountAnd(2, bytesOf(put(1, 1)), first.one), first.want)
		refusedBatch(t, "one behind two of which the later isn't greater", samples.CountAnd(3, bytesOf(put(1, 1)), bytesOf(put(1, 1)), first.one), first.want)
		for _, second := range wrong {
			refusedBatch(t, "two", samples.CountAnd(2, first.one, second.one), wrong[i].want)
		}
	}
}

// P7.3: a batch that all its clients signed is right.
func TestCheckBatch(t *testing.T) {
	master := samples.Hash(chance())
	k := keys.Table(master)
	for _, l := range formedBatches()[:10] {
		for i, r := range l {
			l[i] = own(t, master, r)
		}
		if got, e := reqs.CheckBatch(k, bytesOfBatch(l)); e != api.OK || !samples.SameReqs(got, l) {
			t.Errorf("%v: %v, %v", l, got, e)
		}
	}
}

// P7.3: requests are checked one by one: what is wrong with an earlier one is told, wherever it stands.
func TestCheckBatchOfWrong(t *testing.T) {
	master := samples.Hash(chance())
	roots := keys.Table(master).Roots
	k := api.Keys{Roots: roots[:5]} // none of client 5
	whole := []api.Req{own(t, master, put(1, 1)), own(t, master, put(2, 1)), own(t, master, put(3, 1))}
	wrong := func(i, kind int) (api.Req, api.Errno) {
		r := whole[i]
		switch kind {
		case 0:
			r.Sig = r.Sig[1:]
			return r, api.ErrForm
		case 1:
			r.Seq = 2
			return r, api.ErrTag
		case 2:
			return signed(t, master, 3, r), api.ErrTag
		}
		r.Client = 5
		return r, api.ErrWho
	}
	for i := range whole {
		for kind := range 4 {
			l := slices.Clone(whole)
			r, want := wrong(i, kind)
			l[i] = r
			refusedCheck(t, "one isn't right", k, bytesOfBatch(l), want)
			for j := i + 1; j < len(l); j++ {
				for other := range 3 {
					m := slices.Clone(l)
					m[j], _ = wrong(j, other)
					refusedCheck(t, "two aren't right", k, bytesOfBatch(m), want)
				}
			}
		}
	}
	if l, e := reqs.CheckBatch(k, bytesOfBatch(whole)); e != api.OK || !samples.SameReqs(l, whole) {
		t.Errorf("all are right: %v, %v", l, e)
	}
	refusedCheck(t, "no keys", api.Keys{}, bytesOfBatch(whole), api.ErrWho)
}

// P7.3: what is wrong with the bytes is told ahead of who signed what.
func TestCheckBatchBytesFirst(t *testing.T) {
	master := samples.Hash(chance())
	k := keys.Table(master)
	b := bytesOfBatch([]api.Req{put(1, 1), put(2, 1)}) // unsigned
	refusedCheck(t, "unsigned", k, b, api.ErrForm)
	refusedCheck(t, "unsigned, by nobody's keys", api.Keys{}, b, api.ErrWho)
	refusedCheck(t, "unsigned, and cut", k, b[:len(b)-1], api.ErrShort)
	refusedCheck(t, "unsigned, and twice", k, bytesOfBatch([]api.Req{put(1, 1), put(1, 1)}), api.ErrArg)
	refusedCheck(t, "a request of another kind", k, bytesOfBatch([]api.Req{put(1, 1), {Client: 2, Seq: 1, Op: api.Op{Kind: 7}}}), api.ErrArg)
}

// P7.4: what is got from any bytes has just these bytes; a changed byte makes another batch, or none.
func TestBatchOfAnyBytes(t *testing.T) {
	r := chance()
	got := 0
	for _, l := range formedBatches() {
		whole := bytesOfBatch(l)
		for range 100 {
			b := slices.Clone(whole)
			b[r.IntN(min(len(b), 30))] ^= byte(1 << r.IntN(8))
			back, e := reqs.GetBatch(b)
			if e != api.OK {
				continue
			}
			got++
			again, e := reqs.PutBatch(back)
			if e != api.OK || !bytes.Equal(again, b) || samples.SameReqs(back, l) {
				t.Errorf("% x: % x, %v", b, again, e)
			}
		}
	}
	if got == 0 {
		t.Error("no batch was got")
	}
}

// P7.4: what is put is got, one by one and in batches.
func TestPutIsGot(t *testing.T) {
	for _, r := range samples.FormedReqs(chance()) {
		b, _ := reqs.Put(r)
		if got, e := reqs.Get(b); e != api.OK || !samples.SameReq(got, r) {
			t.Errorf("%v is got as %v, %v", r, got, e)
		}
	}
	for _, l := range formedBatches() {
		b, _ := reqs.PutBatch(l)
		if got, e := reqs.GetBatch(b); e != api.OK || !samples.SameReqs(got, l) {
			t.Errorf("%v is got as %v, %v", l, got, e)
		}
	}
}
