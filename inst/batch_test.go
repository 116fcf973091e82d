package inst_test

import (
	"crypto/sha256"
	"slices"
	"testing"

	"consistory/api"
	"consistory/inst"
	"consistory/samples"
)

// P18.1: a new instance has nothing, whatever its view and its slot.
func TestNew(t *testing.T) {
	for _, mask := range append(samples.RightMasks(), samples.WrongMasks()...) {
		for _, num := range append(samples.Numbers(), 60, 61) {
			x := inst.New(table(), api.View{Num: num, Mask: mask}, num)
			unvoted(t, "new", x)
			for _, h := range append(samples.Hashes(chance()), sha256.Sum256(nil), digest(1)) {
				lacks(t, "new", x, h)
			}
		}
	}
}

// P18.1: of each batch, whatever its length, the digest is told, and then it is there.
func TestLearn(t *testing.T) {
	x := instOf(15)
	all := samples.Texts(chance(), 0, 1, 2, 31, 32, 33, 55, 56, 63, 64, 65, 127, 128, 1000, 16384, 65535, 65536, 65537, 1<<20)
	all = append(all, make([]byte, 32), make([]byte, 64), []byte("abc"))
	for i, batch := range all {
		lacks(t, "not yet", x, sha256.Sum256(batch))
		learns(t, "a batch", x, batch)
		for _, known := range all[:i+1] {
			has(t, "a batch", x, known)
		}
	}
}

// P18.1: a batch is found by its own digest, to the last bit, and by no other one.
func TestOtherDigests(t *testing.T) {
	x := instOf(15)
	batch := []byte("abc")
	h := x.Learn(batch)
	for i := range 8 * len(h) {
		h[i/8] ^= 1 << (i % 8)
		lacks(t, "another bit", x, h)
		h[i/8] ^= 1 << (i % 8)
	}
	has(t, "its own digest", x, batch)
	for _, other := range [][]byte{nil, h[:], []byte("ab"), []byte("abcd"), []byte("ABC"), {0}} {
		lacks(t, "another batch", x, sha256.Sum256(other))
	}
	lacks(t, "no digest", x, api.Hash{})
}

// P18.1: 64 batches are kept, and no more; of those beyond just the digest is told, however often they come.
func TestRoom(t *testing.T) {
	x := instOf(15)
	all := batches(room + 10)
	for range 3 {
		learns(t, "in order", x, all...)
		for i, batch := range all {
			if i < room {
				has(t, "with room", x, batch)
			} else {
				lacks(t, "without room", x, sha256.Sum256(batch))
			}
		}
	}
	learns(t, "again", x, all[room-1], all[room], all[0], all[room])
	has(t, "the last one", x, all[room-1])
	has(t, "the first one", x, all[0])
	lacks(t, "one too many", x, sha256.Sum256(all[room]))
}

// P18.1: which ones are kept hangs on the order in which they came alone.
func TestRoomByOrder(t *testing.T) {
	x := instOf(15)
	all := batches(room + 10)
	slices.Reverse(all)
	learns(t, "reversed", x, all...)
	for _, batch := range all[:room] {
		has(t, "reversed", x, batch)
	}
	for _, batch := range all[room:] {
		lacks(t, "reversed", x, sha256.Sum256(batch))
	}
}

// P18.1: a batch that came already takes no more room.
func TestSameBatches(t *testing.T) {
	x := instOf(15)
	all := batches(room)
	for _, batch := range all[:room-1] {
		learns(t, "often", x, all[0], batch, batch, batch)
	}
	lacks(t, "not yet", x, sha256.Sum256(all[room-1]))
	learns(t, "the last one", x, all[room-1], []byte("abc"))
	has(t, "the last one", x, all[room-1])
	lacks(t, "one too many", x, sha256.Sum256([]byte("abc")))
	for _, batch := range all {
		has(t, "all", x, batch)
	}
}

// P18.1: nothing is a batch as any other: it isn't there till it came, and it takes room.
func TestBatchOfNothing(t *testing.T) {
	for _, nothing := range [][]byte{nil, {}} {
		x := instOf(15)
		lacks(t, "not yet", x, sha256.Sum256(nil))
		learns(t, "nothing", x, nothing)
		has(t, "nothing", x, nil)
		all := batches(room)
		learns(t, "others", x, all...)
		has(t, "all but one", x, all[room-2])
		lacks(t, "one too many", x, sha256.Sum256(all[room-1]))
		has(t, "nothing", x, nil)
	}
}

// P18.1: batches and votes know nothing of each other: what is voted for needn't be kept, and what is kept nobody votes for.
func TestBatchesAndVotes(t *testing.T) {
	x := instOf(15)
	m := wrote(2, 1)
	m.Hash = sha256.Sum256([]byte("abc"))
	votes := byAll(m, 0, 1, 2)
	samples.Takes(t, "votes", x, api.OK, votes...)
	lacks(t, "voted for", x, m.Hash)
	learns(t, "full", x, batches(room)...)
	samples.Takes(t, "without room for batches", x, api.OK, by(3, m))
	lacks(t, "voted for", x, m.Hash)
	writtenIn(x, 2).is(t, "without its batch", outcome{2, m.Hash, append(votes, by(3, m)), true})
	y := instOf(15)
	learns(t, "no votes", y, []byte("abc"))
	unvoted(t, "just a batch", y)
}
