// Package samples makes what the layers' tests hand in. It is the tests' alone: no layer calls it.
package samples

import (
	"bytes"
	"math"
	"slices"

	"consistory/api"
)

const (
	room    = 256  // bytes of spare room
	unasked = 0xee // each of them: seldom what anyone would put there
	spare   = 3    // texts of spare room, each nil

	wildBody  = 200 // a wild message's body has fewer bytes
	wildParts = 20  // and it has fewer parts: at times more than there may be
	wildPart  = 40  // each of fewer bytes
)

// Source gives numbers; whether they come by chance is the caller's.
type Source interface {
	Uint64() uint64
}

// Text is n bytes of the source's.
func Text(s Source, n int) []byte {
	b := make([]byte, n)
	for i := range b {
		b[i] = byte(s.Uint64())
	}
	return b
}

// Hash is a digest of the source's bytes.
func Hash(s Source) api.Hash {
	return api.Hash(Text(s, len(api.Hash{})))
}

// Texts are texts of the source's bytes, one of each length.
func Texts(s Source, lengths ...int) [][]byte {
	l := make([][]byte, len(lengths))
	for i, n := range lengths {
		l[i] = Text(s, n)
	}
	return l
}

// LengthAnd is b with its length ahead, as a text is told.
func LengthAnd(b []byte) []byte {
	return append(packed(uint64(len(b))), b...)
}

// CountAnd is n, as how many there are is told, and each text behind it; n may be
// another number than these are.
func CountAnd(n uint64, each ...[]byte) []byte {
	l := packed(n)
	for _, b := range each {
		l = append(l, LengthAnd(b)...)
	}
	return l
}

// packed is n by groups of seven bits, the lowest first. It calls no layer, so that it
// can be held against them.
func packed(n uint64) []byte {
	var l []byte
	for ; n >= 128; n >>= 7 {
		l = append(l, byte(n)|128)
	}
	return append(l, byte(n))
}

// Hashes are digests of which the bytes are of all sorts: noughts, ones, both,
// and the source's.
func Hashes(s Source) []api.Hash {
	var full api.Hash
	for i := range full {
		full[i] = 0xff
	}
	return []api.Hash{{}, full, {0: 1}, {31: 1}, Hash(s), Hash(s)}
}

// Roomy is a view of b in an array with spare room, and the whole array, by
// which a test sees whether somebody wrote into the room.
func Roomy(b []byte) (whole, view []byte) {
	// An append could leave more room than the whole tells of.
	whole = make([]byte, len(b)+room)
	for i := copy(whole, b); i < len(whole); i++ {
		whole[i] = unasked
	}
	return whole, whole[:len(b)]
}

// RoomyTexts is l with spare room behind each text and behind the list of these, and a
// call that tells whether all of that is still as it was.
func RoomyTexts(l [][]byte) (view [][]byte, stays func() bool) {
	var wholes, before [][]byte
	list := make([][]byte, len(l)+spare)
	for i, text := range l {
		whole, roomy := Roomy(text)
		list[i] = roomy
		wholes, before = append(wholes, whole), append(before, slices.Clone(whole))
	}
	view = list[:len(l)]
	return view, func() bool {
		empty := !slices.ContainsFunc(list[len(l):], func(text []byte) bool { return text != nil })
		return empty && slices.EqualFunc(wholes, before, bytes.Equal) && slices.EqualFunc(view, l, bytes.Equal)
	}
}

// RoomyMsg is m with spare room behind its body, its parts and the list of these,
// and a call that tells whether all of that is still as it was.
func RoomyMsg(m api.Msg) (view api.Msg, stays func() bool) {
	body, bodyStays := RoomyTexts([][]byte{m.Body})
	parts, partsStay := RoomyTexts(m.Parts)
	view = m
	view.Body, view.Parts = body[0], parts
	return view, func() bool {
		return bodyStays() && partsStay() && SameMsg(view, m)
	}
}

// SameMsg tells whether both messages are one: nothing is one with nil.
func SameMsg(m, n api.Msg) bool {
	numbers := m.Kind == n.Kind && m.From == n.From && m.View == n.View && m.Reg == n.Reg && m.Slot == n.Slot
	return numbers && m.Hash == n.Hash && bytes.Equal(m.Body, n.Body) && slices.EqualFunc(m.Parts, n.Parts, bytes.Equal)
}

// BriefMsg tells of m what a line has room for: its numbers, and how much of the
// rest there is.
func BriefMsg(m api.Msg) []int {
	return []int{m.Kind, m.From, m.View, m.Reg, m.Slot, len(m.Body), len(m.Parts)}
}

// Spoil writes over all that a list has, spare room included, by which a test
// sees who else has that memory.
func Spoil(b []byte) {
	b = b[:cap(b)]
	for i := range b {
		b[i] ^= 0x55
	}
}

// WildMsg is a message that has any numbers, those that no message may have among
// them, and a body and parts of the source's bytes.
func WildMsg(s Source) api.Msg {
	all := Numbers()
	some := func() int { return all[below(s, len(all))] }
	m := api.Msg{Kind: some(), From: some(), View: some(), Reg: some(), Slot: some(), Hash: Hash(s)}
	m.Body = Text(s, below(s, wildBody))
	for range below(s, wildParts) {
		m.Parts = append(m.Parts, Text(s, below(s, wildPart)))
	}
	return m
}

// NearMsg is a wild message of which each number may be, or just may not be: it
// is formed often, but not always.
func NearMsg(s Source) api.Msg {
	m := WildMsg(s)
	m.Kind, m.From = below(s, api.MReq+2), below(s, api.MaxNodes+1)
	m.View, m.Reg, m.Slot = below(s, api.MaxSlots+2), below(s, api.MaxReg+2), below(s, api.MaxSlots+2)
	return m
}

// Orders are all orders of what is in l.
func Orders[V any](l []V) [][]V {
	if len(l) == 0 {
		return [][]V{nil}
	}
	var all [][]V
	for i, first := range l {
		for _, rest := range Orders(slices.Delete(slices.Clone(l), i, i+1)) {
			all = append(all, append([]V{first}, rest...))
		}
	}
	return all
}

// below is a number of the source's from 0 to n - 1.
func below(s Source, n int) int {
	return int(s.Uint64() % uint64(n))
}

// SpoilMsg writes over all that m's lists have, and over the list of its parts.
func SpoilMsg(m api.Msg) {
	Spoil(m.Body)
	for _, part := range m.Parts {
		Spoil(part)
	}
	clear(m.Parts[:cap(m.Parts)])
}

// ApartMsg tells whether no two of m's lists share memory; each is spoiled to see
// what changes with it.
func ApartMsg(m api.Msg) bool {
	return Apart(append([][]byte{m.Body}, m.Parts...))
}

// Apart tells whether no two of the lists share memory; each is spoiled to see what
// changes with it.
func Apart(lists [][]byte) bool {
	for i, b := range lists {
		var before [][]byte
		for _, behind := range lists[i+1:] {
			before = append(before, slices.Clone(behind))
		}
		Spoil(b)
		if !slices.EqualFunc(lists[i+1:], before, bytes.Equal) {
			return false
		}
	}
	return true
}

// Numbers are numbers of which the bytes are of all sorts, those at the ends of
// what so and so many bytes can tell among them.
func Numbers() []int {
	return []int{
		0, 1, 2, 15, 127, 128, 255, 256, 1 << 16, math.MaxInt32, math.MaxInt32 + 1, math.MaxUint32, 1 << 32,
		0x0102030405060708, math.MaxInt - 1, math.MaxInt,
		-1, -2, -128, -129, -256, -257, math.MinInt32, math.MinInt32 - 1, math.MinInt + 1, math.MinInt,
	}
}

// Ends are numbers with a sign at the ends of what 64 bits tell, and of what less does:
// 0 is the first.
func Ends() []int64 {
	return []int64{
		0, 1, 2, 5, 63, 64, 127, 128, 8191, 8192, 65535, 65536, 65536 + 5, math.MaxInt32, 1 << 32, math.MaxInt64 - 1, math.MaxInt64,
		-1, -2, -63, -64, -65, -8192, -8193, math.MinInt32, -1 << 32, math.MinInt64 + 1, math.MinInt64,
	}
}
