package sha_test

import (
	"bytes"
	"crypto/sha256"
	"encoding/hex"
	"math/rand/v2"
	"slices"

	"consistory/api"
)

// edges are lengths on both sides of each at which the last block changes.
func edges() []int {
	return []int{0, 1, 54, 55, 56, 57, 62, 63, 64, 65, 118, 119, 120, 121, 127, 128, 129, 183, 184, 191, 192, 193}
}

// reference is the library's digest of texts, one behind the other.
func reference(texts ...[]byte) api.Hash {
	return sha256.Sum256(bytes.Join(texts, nil))
}

// hexed is a digest as text.
func hexed(h api.Hash) string {
	return hex.EncodeToString(h[:])
}

// chance is a source of numbers that is always the same.
func chance() *rand.Rand {
	return rand.New(rand.NewPCG(2, 256))
}

// anyText is a text of n bytes.
func anyText(r *rand.Rand, n int) []byte {
	b := make([]byte, n)
	for i := range b {
		b[i] = byte(r.Uint32())
	}
	return b
}

// anyHash is a digest of any bytes.
func anyHash(r *rand.Rand) api.Hash {
	return api.Hash(anyText(r, len(api.Hash{})))
}

// roomy is b in an array that has spare room behind it.
func roomy(b []byte) (whole, view []byte) {
	whole = append(slices.Clone(b), bytes.Repeat([]byte{0xee}, 160)...)
	return whole, whole[:len(b)]
}
