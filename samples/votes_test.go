package samples_test

import (
	"bytes"
	"math/rand/v2"
	"slices"
	"testing"

	"consistory/api"
	"consistory/samples"
)

// seal puts the sender, the kind and the sender's seal, and refuses who has none.
func seal(k api.Keys, m api.Msg) ([]byte, api.Errno) {
	if m.From >= len(k.Seals) {
		return nil, api.ErrWho
	}
	return append([]byte{byte(m.From), byte(m.Kind)}, k.Seals[m.From]...), api.OK
}

// Each one's is sealed by that one, in the order in which they are named.
func TestByAll(t *testing.T) {
	k := api.Keys{Seals: [][]byte{{7}, nil, {8, 9}}}
	m := api.Msg{Kind: api.MWrite, From: 5}
	if b := samples.By(seal, k, 2, m); !bytes.Equal(b, []byte{2, 2, 8, 9}) {
		t.Error(b)
	}
	l := samples.ByAll(seal, k, m, 2, 0, 1, 0)
	if !slices.EqualFunc(l, [][]byte{{2, 2, 8, 9}, {0, 2, 7}, {1, 2}, {0, 2, 7}}, bytes.Equal) || m.From != 5 {
		t.Error(l, m)
	}
	if l := samples.ByAll(seal, k, m); len(l) != 0 {
		t.Error(l)
	}
}

// What can't be sealed isn't handed out.
func TestByNobody(t *testing.T) {
	defer func() {
		if recover() != api.ErrWho {
			t.Error("it is handed out")
		}
	}()
	samples.By(seal, api.Keys{}, 0, api.Msg{})
}

// Nothing is another one but the body and the parts, which n tells from others.
func TestWithBody(t *testing.T) {
	m := api.Msg{Kind: 2, From: 3, View: 4, Reg: 5, Slot: 6, Hash: api.Hash{7}}
	one, other := samples.WithBody(m, 1), samples.WithBody(m, 2)
	if samples.SameMsg(one, other) || !samples.SameMsg(one, samples.WithBody(other, 1)) {
		t.Error(one, other)
	}
	one.Body, one.Parts = nil, nil
	if !samples.SameMsg(one, m) {
		t.Error(one)
	}
}

// What is changed is another message by one thing at most, at times by each of them; kinds stay kinds, views and slots near by.
func TestChanged(t *testing.T) {
	r := rand.New(rand.NewPCG(1, 2))
	m := api.Msg{Kind: 2, From: 3, View: 7, Reg: 5, Slot: 50, Hash: api.Hash{7}}
	var by [6]int
	for range 2000 {
		n := samples.Changed(r, m)
		if n.Kind < 1 || n.Kind > 12 || n.View < 6 || n.View > 8 || n.Slot < 49 || n.Slot > 51 || n.From != 3 || n.Reg != 5 {
			t.Fatal(n)
		}
		unlike := 0
		for i, other := range []bool{n.Kind != m.Kind, n.View != m.View, n.Slot != m.Slot, n.Hash != m.Hash, len(n.Body) > 0} {
			if other {
				by[i]++
				unlike++
			}
		}
		if unlike == 0 {
			by[5]++
		}
		if unlike > 1 {
			t.Fatal(n)
		}
	}
	if slices.Min(by[:]) < 100 {
		t.Error(by)
	}
}

// What is cut lacks a byte, what is spoilt has another one; neither changes what it is made of.
func TestCutAndSpoilt(t *testing.T) {
	b := []byte{4, 5, 6}
	if c := samples.Cut(b); !bytes.Equal(c, []byte{4, 5}) {
		t.Error(c)
	}
	if c := samples.Spoilt(b); !bytes.Equal(c, []byte{4, 5, 7}) || !bytes.Equal(b, []byte{4, 5, 6}) {
		t.Error(c, b)
	}
}
