package ots_test

import (
	"bytes"
	"crypto/sha256"
	"encoding/binary"
	"encoding/hex"
	"fmt"
	"math/rand/v2"
	"slices"
	"strings"

	"consistory/api"
	"consistory/samples"
)

const (
	chains = 35  // chains of a key
	steps  = 15  // steps of a chain
	size   = 16  // bytes of a piece
	whole  = 560 // bytes of a signature
)

// digitsOf are a digest's digits, told as text: two signs of each byte, and three of what they leave.
func digitsOf(h api.Hash) [chains]int {
	const signs = "0123456789abcdef"
	text := hex.EncodeToString(h[:size])
	left := 0
	for _, c := range text {
		left += steps - strings.IndexRune(signs, c)
	}
	var digits [chains]int
	for i, c := range text + fmt.Sprintf("%03x", left) {
		digits[i] = strings.IndexRune(signs, c)
	}
	return digits
}

// begunOf is, by the library's digest, the piece with which chain j of a key begins.
func begunOf(seed api.Hash, index, j int) []byte {
	b := binary.BigEndian.AppendUint64(slices.Clone(seed[:]), uint64(index))
	h := sha256.Sum256(append(b, byte(j)))
	return slices.Clone(h[:size])
}

// steppedOf is, by the library's digest, where chain j comes from p by the step s.
func steppedOf(p []byte, j, s int) []byte {
	h := sha256.Sum256(append(slices.Clone(p), byte(j), byte(s)))
	return slices.Clone(h[:size])
}

// publicOf is, by the library's digest, the public key that seed has for index.
func publicOf(seed api.Hash, index int) api.Hash {
	var ends [][]byte
	for j := range chains {
		p := begunOf(seed, index, j)
		for s := range steps {
			p = steppedOf(p, j, s)
		}
		ends = append(ends, p)
	}
	return sha256.Sum256(bytes.Join(ends, nil))
}

// signedBy is, by the library's digest, the signature of text.
func signedBy(seed api.Hash, index int, text []byte) []byte {
	var sig []byte
	for j, d := range digitsOf(sha256.Sum256(text)) {
		p := begunOf(seed, index, j)
		for s := range d {
			p = steppedOf(p, j, s)
		}
		sig = append(sig, p...)
	}
	return sig
}

// recoveredOf is, by the library's digest, the public key by which sig is right for text.
func recoveredOf(text, sig []byte) api.Hash {
	var ends []byte
	for j, d := range digitsOf(sha256.Sum256(text)) {
		p := sig[size*j:][:size]
		for s := d; s < steps; s++ {
			p = steppedOf(p, j, s)
		}
		ends = append(ends, p...)
	}
	return sha256.Sum256(ends)
}

// textsOf are texts, from none on, of lengths on both sides of a block's end.
func textsOf(r *rand.Rand) [][]byte {
	return samples.Texts(r, 0, 1, 4, 16, 32, 55, 56, 63, 64, 65, 200, 560, api.MaxText)
}

// fingerprint is the digest of b as text.
func fingerprint(b []byte) string {
	return fmt.Sprintf("%x", sha256.Sum256(b))
}

// chance is a source of numbers that is always the same.
func chance() *rand.Rand {
	return rand.New(rand.NewPCG(4, 35))
}
