package samples

import (
	"slices"
	"strconv"
)

// Shares are how many of a view's members are meant by each word.
type Shares struct {
	Faults, Quorum, Enough, Some int
}

// SharesOf are those of n members, written out by hand; none of n that no view has.
func SharesOf(n int) Shares {
	switch n {
	case 4:
		return Shares{1, 3, 3, 2}
	case 5:
		return Shares{1, 4, 4, 2}
	case 6:
		return Shares{1, 4, 5, 2}
	case 7:
		return Shares{2, 5, 5, 3}
	}
	return Shares{}
}

// Members are those of a mask, rising. They are read from its binary digits, so that
// they can be held against what shifts tell.
func Members(mask uint16) []int {
	digits := []byte(strconv.FormatInt(int64(mask), 2))
	slices.Reverse(digits)
	var l []int
	for i, d := range digits {
		if d == '1' {
			l = append(l, i)
		}
	}
	return l
}
