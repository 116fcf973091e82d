package keys_test

import (
	"crypto/sha256"
	"encoding/hex"
	"math/rand/v2"
	"slices"

	"consistory/api"
	"consistory/ots"
	"consistory/samples"
)

const (
	leaves = 8   // leaves of a tree
	whole  = 657 // bytes of a signature
	wayAt  = 561 // where its digests beside the way begin
)

// hashSpan is where one of the digests beside the way stands in a signature.
func hashSpan(sig []byte, level int) []byte {
	return sig[wayAt+32*level:][:32]
}

// paired is the library's digest of both, the left one first.
func paired(left, right []byte) []byte {
	h := sha256.Sum256(slices.Concat(left, right))
	return h[:]
}

// treeOf is the seed's tree, level by level, the leaves ahead.
func treeOf(seed api.Hash) [][][]byte {
	var row [][]byte
	for k := range leaves {
		h := ots.Public(seed, k)
		row = append(row, h[:])
	}
	tree := [][][]byte{row}
	for len(row) > 1 {
		var above [][]byte
		for pair := range slices.Chunk(row, 2) {
			above = append(above, paired(pair[0], pair[1]))
		}
		row = above
		tree = append(tree, row)
	}
	return tree
}

// rootOf is the root of the seed's tree.
func rootOf(seed api.Hash) api.Hash {
	tree := treeOf(seed)
	return api.Hash(tree[len(tree)-1][0])
}

// besides tells for each leaf which digests of each level stand beside its way up.
func besides() [leaves][3]int {
	return [leaves][3]int{{1, 1, 1}, {0, 1, 1}, {3, 0, 1}, {2, 0, 1}, {5, 3, 0}, {4, 3, 0}, {7, 2, 0}, {6, 2, 0}}
}

// signedBy is the signature of text by leaf k of the seed's tree.
func signedBy(seed api.Hash, k int, text []byte) []byte {
	tree := treeOf(seed)
	sig := append([]byte{byte(k)}, ots.Sign(seed, k, text)...)
	for level, i := range besides()[k] {
		sig = append(sig, tree[level][i]...)
	}
	return sig
}

// endOf is where the way up ends that sig tells for text, wherever that is.
func endOf(text, sig []byte) api.Hash {
	public, _ := ots.Recover(text, sig[1:wayAt])
	h := public[:]
	for level, left := range [3]bool{sig[0]%2 == 0, sig[0]%4 < 2, sig[0] < 4} {
		if left {
			h = paired(h, hashSpan(sig, level))
		} else {
			h = paired(hashSpan(sig, level), h)
		}
	}
	return api.Hash(h)
}

// textsOf are texts, from none on.
func textsOf(r *rand.Rand) [][]byte {
	return samples.Texts(r, 0, 1, 32, 55, 56, 64, 657, api.MaxText)
}

// hexed is b as text.
func hexed(b []byte) string {
	return hex.EncodeToString(b)
}

// chance is a source of numbers that is always the same.
func chance() *rand.Rand {
	return rand.New(rand.NewPCG(5, 8))
}
