// Package copies makes copies of what layers are handed and keep: whoever handed it in may change it afterwards.
package copies

import (
	"bytes"

	"consistory/api"
)

// Seals is a key table with k's seals, of all replicas that there may be, and no roots:
// it opens whatever k opens.
func Seals(k api.Keys) api.Keys {
	var l [][]byte
	for _, seal := range k.Seals[:min(len(k.Seals), api.MaxNodes)] {
		l = append(l, bytes.Clone(seal))
	}
	return api.Keys{Seals: l}
}
