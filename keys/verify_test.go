package keys_test

import (
	"bytes"
	"fmt"
	"testing"

	"consistory/api"
	"consistory/keys"
	"consistory/ots"
	"consistory/samples"
)

// refused checks that a signature is answered the error e, and beside it no leaf.
func refused(t *testing.T, name string, root api.Hash, text, sig []byte, e api.Errno) {
	t.Helper()
	if leaf, got := keys.Verify(root, text, sig); got != e || leaf != 0 {
		t.Errorf("%s: %d, %v; want %v", name, leaf, got, e)
	}
}

// P5.4: what is signed is right by the root, and tells its leaf.
func TestVerifyOfSign(t *testing.T) {
	r := chance()
	for _, seed := range samples.Hashes(r) {
		root := keys.Root(seed)
		for _, text := range textsOf(r) {
			for k := range leaves {
				sig, e := keys.Sign(seed, k, text)
				if e != api.OK {
					t.Fatal(k, e)
				}
				if leaf, e := keys.Verify(root, text, sig); leaf != k || e != api.OK {
					t.Errorf("of %d bytes by %x, leaf %d: %d, %v", len(text), seed, k, leaf, e)
				}
			}
		}
	}
}

// P5.2: whatever a signature is made of, it is right by the root at which its way up ends, and by no other one.
func TestVerifyOfAnyBytes(t *testing.T) {
	r := chance()
	for i := range 20 * leaves {
		text, sig := samples.Text(r, i), samples.Text(r, whole)
		sig[0] = byte(i % leaves)
		root := endOf(text, sig)
		if leaf, e := keys.Verify(root, text, sig); leaf != i%leaves || e != api.OK {
			t.Errorf("by leaf %d: %d, %v", i%leaves, leaf, e)
		}
		refused(t, "by another root", samples.Hash(r), text, sig, api.ErrTag)
		refused(t, "by the root of noughts", api.Hash{}, text, sig, api.ErrTag)
	}
}

// P5.2: one that hasn't 657 bytes is none.
func TestVerifyLength(t *testing.T) {
	r := chance()
	seed, text := samples.Hash(r), samples.Text(r, 30)
	root, sig := keys.Root(seed), signedBy(seed, 0, text)
	refused(t, "nil", root, text, nil, api.ErrForm)
	for n := range whole {
		refused(t, fmt.Sprint("the first bytes, ", n), root, text, sig[:n], api.ErrForm)
		refused(t, fmt.Sprint("without the first ", n+1), root, text, sig[n+1:], api.ErrForm)
	}
	for _, n := range []int{1, 2, 31, 32, whole, api.MaxText} {
		longer := append(bytes.Clone(sig), samples.Text(r, n)...)
		refused(t, fmt.Sprint("with more behind, ", n), root, text, longer, api.ErrForm)
	}
	refused(t, "twice", root, text, append(bytes.Clone(sig), sig...), api.ErrForm)
	refused(t, "layer 4's alone", root, text, ots.Sign(seed, 0, text), api.ErrForm)
}

// P5.2, R2: one of which the first byte is above 7 is none, also where all else is right; so is one that is wrong beside.
func TestVerifyFirstByte(t *testing.T) {
	r := chance()
	seed, text := samples.Hash(r), samples.Text(r, 30)
	root := keys.Root(seed)
	for k := range leaves {
		sig := signedBy(seed, k, text)
		for first := range 256 {
			sig[0] = byte(first)
			switch {
			case first >= leaves:
				name := fmt.Sprintf("of leaf %d as %d", k, first)
				refused(t, name, root, text, sig, api.ErrForm)
				refused(t, name+", by another root", seed, text, sig, api.ErrForm)
				refused(t, name+", too short", root, text, sig[:whole-1], api.ErrForm)
			case first != k:
				refused(t, fmt.Sprintf("of leaf %d as %d", k, first), root, text, sig, api.ErrTag)
			}
		}
	}
}

// P5.2: with any bit turned over behind its leaf it isn't right.
func TestVerifyOfTurnedBits(t *testing.T) {
	r := chance()
	seed, text := samples.Hash(r), samples.Text(r, 40)
	root := keys.Root(seed)
	for k := range leaves {
		sig := signedBy(seed, k, text)
		for i := 1; i < whole; i++ {
			bit := byte(1) << r.IntN(8)
			sig[i] ^= bit
			refused(t, fmt.Sprintf("leaf %d, byte %d ^ %x", k, i, bit), root, text, sig, api.ErrTag)
			sig[i] ^= bit
		}
		if leaf, e := keys.Verify(root, text, sig); leaf != k || e != api.OK {
			t.Errorf("turned back, leaf %d: %d, %v", k, leaf, e)
		}
	}
}

// P5.2: the digests beside the way stand in their order, and are this leaf's.
func TestVerifyOfOtherWays(t *testing.T) {
	r := chance()
	seed, text := samples.Hash(r), samples.Text(r, 40)
	root := keys.Root(seed)
	for k := range leaves {
		sig := signedBy(seed, k, text)
		for _, order := range [][3]int{{0, 2, 1}, {1, 0, 2}, {1, 2, 0}, {2, 0, 1}, {2, 1, 0}} {
			other := bytes.Clone(sig)
			for level, from := range order {
				copy(hashSpan(other, level), hashSpan(sig, from))
			}
			refused(t, fmt.Sprintf("leaf %d, in the order %v", k, order), root, text, other, api.ErrTag)
		}
		for from := range leaves {
			if from != k {
				other := append(bytes.Clone(sig[:wayAt]), signedBy(seed, from, text)[wayAt:]...)
				refused(t, fmt.Sprintf("leaf %d, the way of %d", k, from), root, text, other, api.ErrTag)
			}
		}
		clear(sig[wayAt:])
		refused(t, fmt.Sprintf("leaf %d, noughts beside", k), root, text, sig, api.ErrTag)
	}
}

// P5.2: it is right for its text alone.
func TestVerifyForOtherText(t *testing.T) {
	r := chance()
	seed := samples.Hash(r)
	root := keys.Root(seed)
	for i, text := range textsOf(r) {
		sig := signedBy(seed, i%leaves, text)
		others := [][]byte{append(bytes.Clone(text), 0), samples.Text(r, len(text)+1)}
		if len(text) > 0 {
			turned := bytes.Clone(text)
			turned[len(text)/2] ^= 0x10
			others = append(others, nil, text[1:], text[:len(text)-1], turned)
		}
		for j, other := range others {
			refused(t, fmt.Sprintf("of %d bytes, the other text %d", len(text), j), root, other, sig, api.ErrTag)
		}
	}
}

// P5.2: it is right by its tree's root alone: by no other seed's, no digest with another bit, and none from below in the tree.
func TestVerifyByOtherRoot(t *testing.T) {
	r := chance()
	seed, text := samples.Hash(r), samples.Text(r, 40)
	root, sig := keys.Root(seed), signedBy(seed, 6, text)
	for bit := range 8 * len(root) {
		other := root
		other[bit/8] ^= 1 << (bit % 8)
		refused(t, fmt.Sprint("the root with another bit ", bit), other, text, sig, api.ErrTag)
	}
	for _, row := range treeOf(seed)[:3] {
		for i, h := range row {
			refused(t, fmt.Sprintf("the digest %d of %d", i, len(row)), api.Hash(h), text, sig, api.ErrTag)
		}
	}
	for _, other := range samples.Hashes(r) {
		refused(t, "another seed's root", keys.Root(other), text, sig, api.ErrTag)
		refused(t, "another seed", other, text, sig, api.ErrTag)
	}
}
