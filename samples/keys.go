package samples

import "consistory/api"

// Table is a key table with n seals of the source's bytes, no two alike, of the lengths
// at which a key is taken otherwise; its roots are nobody's. Of one source the seals of a
// smaller table are the first ones of a greater.
func Table(s Source, n int) api.Keys {
	lengths := []int{32, 1, 31, 33, 63, 64, 65, 96, 128, 129, 300}
	k := api.Keys{Roots: []api.Hash{Hash(s), Hash(s)}}
	for i := range n {
		seal := Text(s, lengths[i%len(lengths)])
		seal[0] = byte(i)
		k.Seals = append(k.Seals, seal)
	}
	return k
}
