package reqs_test

import (
	"slices"
	"testing"

	"consistory/api"
	"consistory/keys"
	"consistory/reqs"
	"consistory/samples"
)

// P7.2: a request of each client, and each number, that its client signed is right.
func TestCheck(t *testing.T) {
	master := samples.Hash(chance())
	k := keys.Table(master)
	for client := range clients {
		for seq := 1; seq <= seqs; seq++ {
			r := own(t, master, put(client, seq))
			if e := reqs.Check(k, r); e != api.OK {
				t.Errorf("%d of client %d: %v", seq, client, e)
			}
		}
	}
}

// P7.2: by another leaf than its own it isn't right, though that leaf signed it.
func TestCheckLeaf(t *testing.T) {
	master := samples.Hash(chance())
	k := keys.Table(master)
	for leaf := range seqs {
		for _, r := range []api.Req{put(0, 1), put(1, 2), put(5, 8)} {
			want := api.ErrTag
			if leaf == r.Seq-1 {
				want = api.OK
			}
			if e := reqs.Check(k, signed(t, master, leaf, r)); e != want {
				t.Errorf("%d of client %d by leaf %d: %v", r.Seq, r.Client, leaf, e)
			}
		}
	}
}

// P7.2: what another client signed, or of what something is changed, isn't right.
func TestCheckChanged(t *testing.T) {
	master := samples.Hash(chance())
	k := keys.Table(master)
	r := own(t, master, api.Req{Client: 1, Seq: 2, Op: api.Op{Kind: api.KCas, Key: 3, A: 5, B: 6}})
	changed := map[string]api.Req{
		"the client": {Client: 2, Seq: 2, Op: r.Op, Sig: r.Sig},
		"the number": {Client: 1, Seq: 3, Op: r.Op, Sig: r.Sig},
		"the key":    {Client: 1, Seq: 2, Op: api.Op{Kind: api.KCas, Key: 4, A: 5, B: 6}, Sig: r.Sig},
		"A":          {Client: 1, Seq: 2, Op: api.Op{Kind: api.KCas, Key: 3, A: 6, B: 6}, Sig: r.Sig},
		"B":          {Client: 1, Seq: 2, Op: api.Op{Kind: api.KCas, Key: 3, A: 5, B: -6}, Sig: r.Sig},
		"the kind":   {Client: 1, Seq: 2, Op: api.Op{Kind: api.KDel, Key: 3}, Sig: r.Sig},
	}
	for what, s := range changed {
		if e := reqs.Check(k, s); e != api.ErrTag {
			t.Errorf("%s is another: %v", what, e)
		}
	}
	if e := reqs.Check(k, r); e != api.OK {
		t.Error("nothing is changed:", e)
	}
	other := keys.Table(samples.Hash(chance()))
	other.Roots[1] = k.Roots[2]
	if e := reqs.Check(other, r); e != api.ErrTag {
		t.Error("by another client's root:", e)
	}
}

// P7.2: a signature that is changed isn't right; one of another length, or by no leaf, isn't formed so.
func TestCheckSignature(t *testing.T) {
	master := samples.Hash(chance())
	k := keys.Table(master)
	r := own(t, master, put(3, 4))
	whole := r.Sig
	for _, i := range []int{1, 2, 300, 560, 561, 656} {
		r.Sig = slices.Clone(whole)
		r.Sig[i] ^= 1
		if e := reqs.Check(k, r); e != api.ErrTag {
			t.Errorf("byte %d is changed: %v", i, e)
		}
	}
	for leaf := range 256 {
		r.Sig = slices.Clone(whole)
		r.Sig[0] = byte(leaf)
		want := api.ErrForm
		if leaf < seqs {
			want = api.ErrTag
		}
		if leaf == 3 {
			want = api.OK
		}
		if e := reqs.Check(k, r); e != want {
			t.Errorf("leaf %d: %v; want %v", leaf, e, want)
		}
	}
	for _, n := range []int{0, 1, 656, 658, 1000} {
		r.Sig = append(slices.Clone(whole), make([]byte, 400)...)[:n]
		if e := reqs.Check(k, r); e != api.ErrForm {
			t.Errorf("%d bytes: %v", n, e)
		}
	}
	r.Sig = nil
	if e := reqs.Check(k, r); e != api.ErrForm {
		t.Error("no signature:", e)
	}
}

// P7.2: a client of whom there is no root is nobody, whatever the signature is; seals are of no use here.
func TestCheckWho(t *testing.T) {
	master := samples.Hash(chance())
	k := keys.Table(master)
	for client := range clients {
		r := own(t, master, put(client, 1))
		for n := range clients + 1 {
			want := api.OK
			if client >= n {
				want = api.ErrWho
			}
			if e := reqs.Check(api.Keys{Roots: k.Roots[:n]}, r); e != want {
				t.Errorf("client %d, of %d roots: %v", client, n, e)
			}
		}
		if e := reqs.Check(api.Keys{Seals: k.Seals}, r); e != api.ErrWho {
			t.Errorf("client %d, no roots: %v", client, e)
		}
		r.Sig = nil
		if e := reqs.Check(api.Keys{}, r); e != api.ErrWho {
			t.Errorf("client %d, neither roots nor a signature: %v", client, e)
		}
	}
}

// P7.2: one that isn't formed is told ahead of all else, also where there is a root of that number, or none.
func TestCheckNotFormed(t *testing.T) {
	master := samples.Hash(chance())
	k := keys.Table(master)
	more := api.Keys{Roots: append(slices.Clone(k.Roots), k.Roots...)}
	for _, r := range append(samples.WrongReqs(), samples.FarReqs()...) {
		for _, with := range []api.Keys{{}, k, more} {
			if e := reqs.Check(with, r); e != api.ErrArg {
				t.Errorf("%v: %v", r, e)
			}
		}
	}
	// Signed by its client, of whom there is a root: yet there is no such client.
	more.Roots[6] = keys.Root(keys.Seed(master, 6))
	if e := reqs.Check(more, own(t, master, put(6, 1))); e != api.ErrArg {
		t.Error("a client beyond:", e)
	}
}

// P7.2: by the administrator's key nobody else's request is right, and the other way about.
func TestCheckAdmin(t *testing.T) {
	master := samples.Hash(chance())
	k := keys.Table(master)
	view := api.Req{Client: 0, Seq: 1, Op: api.Op{Kind: api.KView, A: 31}}
	sig, _ := keys.Sign(keys.Seed(master, 1), 0, textOf(view))
	view.Sig = sig
	if e := reqs.Check(k, view); e != api.ErrTag {
		t.Error("a view that client 1 signed:", e)
	}
	r := put(1, 1)
	sig, _ = keys.Sign(keys.Seed(master, 0), 0, textOf(r))
	r.Sig = sig
	if e := reqs.Check(k, r); e != api.ErrTag {
		t.Error("client 1's, that the administrator signed:", e)
	}
}
