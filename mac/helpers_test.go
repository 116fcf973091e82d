package mac_test

import (
	"crypto/hmac"
	"crypto/sha256"
	"encoding/binary"
	"encoding/hex"
	"math/rand/v2"
	"slices"

	"consistory/api"
	"consistory/samples"
)

// keyEdges are lengths of keys on both sides of each at which a key is taken otherwise.
func keyEdges() []int {
	return []int{0, 1, 2, 20, 31, 32, 33, 62, 63, 64, 65, 66, 96, 127, 128, 129, 200}
}

// textEdges are lengths of texts on both sides of each at which the digests' last blocks change.
func textEdges() []int {
	return []int{0, 1, 32, 54, 55, 56, 57, 63, 64, 65, 119, 120, 128, 300}
}

// reference is the library's tag of text by the key.
func reference(key, text []byte) api.Hash {
	h := hmac.New(sha256.New, key)
	h.Write(text)
	return api.Hash(h.Sum(nil))
}

// derived is the library's key that master has for who and use.
func derived(master api.Hash, who, use int) []byte {
	b := binary.BigEndian.AppendUint64(slices.Clone(master[:]), uint64(who))
	h := sha256.Sum256(binary.BigEndian.AppendUint64(b, uint64(use)))
	return h[:]
}

// hexed is a tag as text.
func hexed(h api.Hash) string {
	return hex.EncodeToString(h[:])
}

// chance is a source of numbers that is always the same.
func chance() *rand.Rand {
	return rand.New(rand.NewPCG(3, 64))
}

// anyKeys are keys of the lengths at which they are taken otherwise, in any order.
func anyKeys(r *rand.Rand) [][]byte {
	keys := samples.Texts(r, keyEdges()...)
	r.Shuffle(len(keys), func(i, j int) { keys[i], keys[j] = keys[j], keys[i] })
	return keys
}
