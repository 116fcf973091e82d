// Package samples makes what the layers' tests hand in. It is the tests' alone: no layer calls it.
package samples

import (
	"slices"

	"consistory/api"
)

const (
	room    = 256  // bytes of spare room
	unasked = 0xee // each of them: seldom what anyone would put there
)

// Source gives numbers; whether they come by chance is the caller's.
type Source interface {
	Uint64() uint64
}

// Text is n bytes of the source's.
func Text(s Source, n int) []byte {
	b := make([]byte, n)
	for i := range b {
		b[i] = byte(s.Uint64())
	}
	return b
}

// Hash is a digest of the source's bytes.
func Hash(s Source) api.Hash {
	return api.Hash(Text(s, len(api.Hash{})))
}

// Roomy is a view of b in an array with spare room, and the whole array, by
// which a test sees whether somebody wrote into the room.
func Roomy(b []byte) (whole, view []byte) {
	whole = append(slices.Clone(b), slices.Repeat([]byte{unasked}, room)...)
	return whole, whole[:len(b)]
}
