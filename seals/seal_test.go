package seals_test

import (
	"bytes"
	"encoding/hex"
	"slices"
	"testing"

	"consistory/api"
	"consistory/samples"
	"consistory/seals"
)

// made is a message, its sender's seal, and what both make by another program.
type made struct {
	m          api.Msg
	seal       []byte
	bytes, tag string
}

// known are such: a seal that is empty, and one that is longer than a key's block, among them.
func known() []made {
	long := make([]byte, 100)
	for i := range long {
		long[i] = byte(i)
	}
	var full api.Hash
	for i := range full {
		full[i] = 0xff
	}
	noughts := hex.EncodeToString(make([]byte, 32))
	most := "0c0f003c0028003c" + hex.EncodeToString(full[:]) + "0000"
	return []made{
		{api.Msg{Kind: 2, From: 3}, []byte{4}, "0203000000000000" + noughts + "0000", "170f219a7398645a5d3be57c521ee987861ef911b33be1b64d9aa84e999e9ed7"},
		{
			api.Msg{Kind: 1, View: 1, Reg: 2, Slot: 50, Hash: api.Hash{0: 9, 31: 7}, Body: []byte("ab"), Parts: [][]byte{{5}, nil, {6, 7}}}, []byte("Jefe"),
			"0100000100020032" + "09" + noughts[4:] + "07" + "026162" + "03010500020607", "dcf96004d17c2456ddaa72db91895750d03917ac869b19fbe1e1b7e4b5b63daa",
		},
		{api.Msg{Kind: 12, From: 15, View: 60, Reg: 40, Slot: 60, Hash: full}, long, most, "cae7f86c0f81b2f81d61970332e346e8c1f801bb8a13a4a51a7e25f97973daa3"},
		{api.Msg{Kind: 12, From: 15, View: 60, Reg: 40, Slot: 60, Hash: full}, nil, most, "f1daeeed0357af89227b3397f8c3e90c41f29068ba00d3ccf7e942ba98bff0e5"},
	}
}

// P9.1, P9.2: sealed messages that another program made.
func TestKnown(t *testing.T) {
	for _, c := range known() {
		want, err := hex.DecodeString(c.bytes + c.tag)
		if err != nil {
			t.Fatal(err)
		}
		k := table(nodes)
		k.Seals[c.m.From] = c.seal
		sealed(t, "known", k, c.m, want)
		opened(t, "known", k, want, c.m)
	}
}

// P9.1: each message is its bytes, and their tag by its sender's seal.
func TestSeal(t *testing.T) {
	k := table(nodes)
	for _, m := range formedMsgs() {
		sealed(t, "formed", k, m, sealedOf(k, m))
	}
}

// P9.1: layer 8's errors.
func TestSealOfWrong(t *testing.T) {
	for want, l := range unsaid() {
		for _, m := range l {
			refusedSeal(t, "all have seals", table(nodes), m, want)
		}
	}
}

// P9.1: a message of just 65504 bytes is sealed, to 65536; one of a byte more is too much.
func TestSealRoom(t *testing.T) {
	k := table(nodes)
	for _, m := range []api.Msg{withBody(room - bare - 2), withBody(0, room-bare-3), withBody(30000, room-bare-30000-5)} {
		b, e := seals.Seal(k, m)
		if e != api.OK || len(b) != api.MaxText || !bytes.Equal(b, sealedOf(k, m)) {
			t.Errorf("%v: %d bytes, %v", samples.BriefMsg(m), len(b), e)
		}
		m.Body = append(slices.Clone(m.Body), 0)
		refusedSeal(t, "a byte more", k, m, api.ErrFull)
	}
}

// P9.1: who has no seal seals nothing, whoever else has one.
func TestSealWho(t *testing.T) {
	for n := range nodes + 3 {
		k := table(n)
		for from := range nodes {
			m := vote(from)
			if from >= n {
				refusedSeal(t, "no seal", k, m, api.ErrWho)
			} else {
				sealed(t, "a seal", k, m, sealedOf(k, m))
			}
		}
	}
}

// P9.1: that a message can't be put is told ahead of a seal that isn't there.
func TestSealInOrder(t *testing.T) {
	for want, l := range unsaid() {
		for _, m := range l {
			refusedSeal(t, "nobody has a seal", api.Keys{}, m, want)
			refusedSeal(t, "one has a seal", table(1), m, want)
		}
	}
}

// P9.1: roots make no seals.
func TestSealWithoutRoots(t *testing.T) {
	k := table(3)
	m := vote(2)
	want := sealedOf(k, m)
	for _, roots := range [][]api.Hash{nil, {{1}}, make([]api.Hash, 6), make([]api.Hash, 40)} {
		k := api.Keys{Seals: k.Seals, Roots: roots}
		sealed(t, "other roots", k, m, want)
		opened(t, "other roots", k, want, m)
		refusedSeal(t, "other roots", k, vote(3), api.ErrWho)
	}
}

// P9.3: what is sealed opens to the message.
func TestSealedOpens(t *testing.T) {
	k := table(nodes)
	for _, m := range formedMsgs() {
		b, e := seals.Seal(k, m)
		if e != api.OK {
			t.Errorf("%v: %v", samples.BriefMsg(m), e)
		}
		opened(t, "sealed", k, b, m)
	}
}
