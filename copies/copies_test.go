package copies_test

import (
	"bytes"
	"math/rand/v2"
	"slices"
	"testing"

	"consistory/api"
	"consistory/copies"
	"consistory/samples"
	"consistory/seals"
)

// chance is a source of numbers that is always the same.
func chance() *rand.Rand {
	return rand.New(rand.NewPCG(18, 5))
}

// There are the seals of all replicas that there may be, and of no others, and no roots.
func TestSeals(t *testing.T) {
	for n := range 40 {
		k := samples.Table(chance(), n)
		c := copies.Seals(k)
		if !slices.EqualFunc(c.Seals, k.Seals[:min(n, 16)], bytes.Equal) || len(c.Roots) > 0 {
			t.Errorf("of %d seals there are %d, and %d roots", n, len(c.Seals), len(c.Roots))
		}
	}
	for _, seal := range [][]byte{nil, {}} {
		if c := copies.Seals(api.Keys{Seals: [][]byte{seal, {1}, seal}}); len(c.Seals) != 3 || len(c.Seals[0]) > 0 || len(c.Seals[2]) > 0 {
			t.Errorf("of empty seals there are %v", c.Seals)
		}
	}
}

// Whatever is sealed by the table opens by its copy, and what isn't doesn't.
func TestSealsOpen(t *testing.T) {
	k := samples.Table(chance(), 16)
	c := copies.Seals(k)
	for from := range 16 {
		b := samples.By(seals.Seal, k, from, api.Msg{Kind: api.MWrite, View: 7})
		if m, e := seals.Open(c, b); e != api.OK || m.From != from {
			t.Errorf("what %d sealed opens: %v, %v", from, samples.BriefMsg(m), e)
		}
		if _, e := seals.Open(c, samples.Spoilt(b)); e != api.ErrTag {
			t.Errorf("what is spoilt opens: %v", e)
		}
	}
}

// The copy shares no memory with the table, spare room included, and what is done to it changes nothing there.
func TestSealsAreNew(t *testing.T) {
	k := samples.Table(chance(), 16)
	if !samples.Apart(slices.Concat(copies.Seals(k).Seals, k.Seals)) {
		t.Error("seals share memory")
	}
	k = samples.Table(chance(), 16)
	list, stays := samples.RoomyTexts(k.Seals)
	k.Seals = list
	c := copies.Seals(k)
	_ = append(c.Seals, []byte{1})
	for _, seal := range c.Seals {
		samples.Spoil(seal)
	}
	clear(c.Seals[:cap(c.Seals)])
	if !stays() {
		t.Error("the table is changed")
	}
}
