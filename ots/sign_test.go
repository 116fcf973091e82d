package ots_test

import (
	"bytes"
	"fmt"
	"math"
	"testing"

	"consistory/api"
	"consistory/ots"
	"consistory/samples"
	"consistory/sha"
)

// known is a key, and of its signature of "text" the digest, the first piece and the last one.
type known struct {
	seed                      api.Hash
	index                     int
	public, sig, first, final string
}

// knowns were made by another program.
func knowns() []known {
	seed := sha.Sum([]byte("seed"))
	return []known{
		{api.Hash{}, 0, "c72e53415be119fab0d30605f0e972ab88da1cfb176462f129fc9156132de6d0", "c3555cbc24f9826b6e22441b8cb72fba8270fa34433474224786da7673e70697", "86b28afb7e05483bc75da5463d3a0419", "147db37e4e697593601bb85bbb72ab6e"},
		{seed, 0, "e3e6c779d47ef972d2c06f1d324b45b130b03f6f3be57b0cf8501f3ed5962895", "79935b2afb47e0d51dc5045f04655a4ce02c9054674cc8c64a330b52b8730fb3", "606b8e4b8d5c672a7933649ffb37717c", "7df6c494e495098d5c43decc8fd46889"},
		{seed, 3, "58e9a86eb9a721ec4d17a4cc56e74f59236b5180ddefa64af9bece42369e0f40", "c7735a5a03526ea9cab3f02a67aad616439bee6c63a37ac6df8c4eb7ff742ad0", "722284fd9805e61191a541873ac1391d", "b88a0352ea7abad44fbbaf8a8df81e03"},
		{seed, 258, "ac7796b74bfdaa63d6af6a23b78cafb040759333f611132fe4a35d80b14f1eca", "2080b37bbb33da3380a97312e69df403390583865e0d21eed3bf14be6dfb9927", "e270e9f5260ca830784e79b1fc8f6b48", "9f53cdd0ede341998b2b741cf6733031"},
		{seed, 1 << 32, "bc55d9de1c460f5658dc99dd67972818be2ecc0e8dd411ab171c3fa3b3c86d5d", "1fbd6af8be91e3c85a5e829e80dc9e0d4850a67d924ea609dc59a5413d909e92", "3d6cff7e225c2faa52472921e395f0e0", "14a802755d68831aeca16c64892b27f1"},
		{seed, -1, "73a882986f48b7512098860ea3f1a5dd75e812f4c5cc4cfbb277d8249d6309c4", "4ea082e20eb93814ac91de8529d189602e910e8ff975fe4f9540221992356a25", "d65e7b0d91f72b83fcfefb3bd57415e8", "bfb243a998849c1964e5e77e156991c2"},
		{seed, math.MinInt, "f872266f65589fa56717feb527ec0f9d25fe9b21d5b5260ad3e2a4d6321f165f", "2ec888e989508d1a81b64bf82e74b75bde791e1df74cecbe08b64e343dfe08ce", "b9bc0699d12d411f383b6519bd928491", "f0f4f894e24bbb6c78a9f77f5bd26e22"},
		{seed, math.MaxInt, "2e3b8436c4dab78a49b9dd4717b98c5e2a43822aadd55b35d96f14a61320f4c5", "a15d66b92b99c2ade9e43ceefa4a282b4af29b39427a5a62197a2f6b67deb515", "c56ed0a9073529369ee6b6b471e8f234", "797bb146bcaedd81e14fe94f4307248a"},
	}
}

// P4.1: public keys and signatures that are known.
func TestKnown(t *testing.T) {
	for _, c := range knowns() {
		if got := fmt.Sprintf("%x", ots.Public(c.seed, c.index)); got != c.public {
			t.Errorf("of %x, %d: the public key %s; want %s", c.seed, c.index, got, c.public)
		}
		sig := ots.Sign(c.seed, c.index, []byte("text"))
		if got := fingerprint(sig); len(sig) != whole || got != c.sig {
			t.Fatalf("of %x, %d: a signature of %d bytes, its digest %s; want %s", c.seed, c.index, len(sig), got, c.sig)
		}
		first, final := fmt.Sprintf("%x", sig[:size]), fmt.Sprintf("%x", sig[whole-size:])
		if first != c.first || final != c.final {
			t.Errorf("of %x, %d: from %s to %s; want %s to %s", c.seed, c.index, first, final, c.first, c.final)
		}
	}
}

// P4.1: of any seed and index the public key is the library's.
func TestPublic(t *testing.T) {
	for _, seed := range samples.Hashes(chance()) {
		for _, index := range samples.Numbers() {
			if got, want := ots.Public(seed, index), publicOf(seed, index); got != want {
				t.Errorf("of %x, %d: %x; want %x", seed, index, got, want)
			}
		}
	}
}

// P4.1: each bit of the seed tells, and the index.
func TestPublicTells(t *testing.T) {
	seed := samples.Hash(chance())
	seen := map[api.Hash]bool{}
	for _, index := range samples.Numbers() {
		seen[ots.Public(seed, index)] = true
	}
	for bit := range 8 * len(seed) {
		other := seed
		other[bit/8] ^= 1 << (bit % 8)
		seen[ots.Public(other, 0)] = true
	}
	if want := len(samples.Numbers()) + 256; len(seen) != want {
		t.Errorf("%d keys of %d are unlike", len(seen), want)
	}
}

// P4.1: of any seed, index and text the signature is the library's.
func TestSign(t *testing.T) {
	r := chance()
	numbers := samples.Numbers()
	for i, seed := range samples.Hashes(r) {
		for j, text := range textsOf(r) {
			index := numbers[(i+5*j)%len(numbers)]
			if got, want := ots.Sign(seed, index, text), signedBy(seed, index, text); !bytes.Equal(got, want) {
				t.Errorf("of %d bytes by %x, %d: %x; want %x", len(text), seed, index, got, want)
			}
		}
	}
}

// P4.1: each chain's piece stands where its digit tells, whatever that is.
func TestSignDigits(t *testing.T) {
	r := chance()
	seed := samples.Hash(r)
	var seen [32][16]int
	for range 400 {
		text := samples.Text(r, 8)
		sig := ots.Sign(seed, 6, text)
		if want := signedBy(seed, 6, text); !bytes.Equal(sig, want) {
			t.Errorf("of %x: %x; want %x", text, sig, want)
		}
		digits := digitsOf(sha.Sum(text))
		for j := range seen {
			seen[j][digits[j]]++
		}
	}
	for j, digits := range seen {
		for d, n := range digits {
			if n == 0 {
				t.Errorf("chain %d was never tried at %d", j, d)
			}
		}
	}
}

// P4.1: the text, the seed and the index each tell.
func TestSignTells(t *testing.T) {
	r := chance()
	seed, other := samples.Hash(r), samples.Hash(r)
	a, b := []byte("a"), []byte("b")
	seen := map[string]bool{}
	for _, text := range [][]byte{nil, a, b, append(a, 0)} {
		for _, by := range []api.Hash{seed, other} {
			for _, index := range []int{0, 1, -1} {
				seen[fingerprint(ots.Sign(by, index, text))] = true
			}
		}
	}
	if len(seen) != 24 {
		t.Errorf("%d signatures of 24 are unlike", len(seen))
	}
}
