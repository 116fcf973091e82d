package sha_test

import (
	"bytes"
	"crypto/sha256"
	"encoding/hex"
	"math/rand/v2"

	"consistory/api"
)

// edges are lengths on both sides of each at which the last block changes.
func edges() []int {
	return []int{0, 1, 54, 55, 56, 57, 62, 63, 64, 65, 118, 119, 120, 121, 127, 128, 129, 183, 184, 191, 192, 193}
}

// reference is the library's digest of texts, one behind the other.
func reference(texts ...[]byte) api.Hash {
	return sha256.Sum256(bytes.Join(texts, nil))
}

// hexed is a digest as text.
func hexed(h api.Hash) string {
	return hex.EncodeToString(h[:])
}

// chance is a source of numbers that is always the same.
func chance() *rand.Rand {
	return rand.New(rand.NewPCG(2, 256))
}
