package seals_test

import (
	"slices"
	"testing"

	"consistory/api"
	"consistory/samples"
	"consistory/seals"
	"consistory/wire"
)

// P9.2: each message that is sealed opens.
func TestOpen(t *testing.T) {
	k := table(nodes)
	for _, m := range formedMsgs() {
		opened(t, "sealed", k, sealedOf(k, m), m)
	}
}

// P9.2: fewer than 32 bytes are no tag, and behind none but a tag there is no message.
func TestOpenShort(t *testing.T) {
	k := table(nodes)
	r := chance()
	refusedOpen(t, "nil", k, nil, api.ErrShort)
	refusedOpen(t, "nothing", api.Keys{}, []byte{}, api.ErrShort)
	for n := range tagSize + 1 {
		refusedOpen(t, "any bytes", k, samples.Text(r, n), api.ErrShort)
		refusedOpen(t, "noughts", k, make([]byte, n), api.ErrShort)
		refusedOpen(t, "nothing's tag", k, tagOf(k.Seals[0], nil)[:n], api.ErrShort)
	}
}

// P9.2: a sealed message that is cut anywhere is too short.
func TestOpenCut(t *testing.T) {
	k := table(nodes)
	for _, m := range []api.Msg{vote(5), withBody(20, 3, 0, 150), withBody(100)} {
		b := sealedOf(k, m)
		for n := range b {
			refusedOpen(t, "cut", k, b[:n], api.ErrShort)
		}
		// What is left of a message is too short, tagged rightly too.
		for n := range len(b) - tagSize {
			refusedOpen(t, "cut, and tagged", k, tagged(k.Seals[5], b[:n]), api.ErrShort)
		}
	}
}

// P9.2: layer 8's errors of what is ahead of the last 32 bytes, whoever has a seal, and whatever the tag.
func TestOpenRefusals(t *testing.T) {
	k := table(nodes)
	for _, c := range refusals() {
		if _, e := wire.Get(c.b); e != c.want {
			t.Fatalf("%d bytes: layer 8 tells %v, not %v", len(c.b), e, c.want)
		}
		for _, k := range []api.Keys{k, table(5), {}} {
			refusedOpen(t, "noughts for a tag", k, append(slices.Clone(c.b), make([]byte, tagSize)...), c.want)
		}
		for _, seal := range k.Seals {
			refusedOpen(t, "tagged", k, tagged(seal, c.b), c.want)
		}
	}
}

// P9.2: at most 65536 bytes in all.
func TestOpenRoom(t *testing.T) {
	k := table(nodes)
	for _, m := range []api.Msg{withBody(room - bare - 2), withBody(0, room-bare-3)} {
		b := sealedOf(k, m)
		if len(b) != api.MaxText {
			t.Fatalf("%d bytes", len(b))
		}
		opened(t, "full", k, b, m)
		refusedOpen(t, "full, and wrong", k, append(slices.Clone(b[:len(b)-1]), b[len(b)-1]^1), api.ErrTag)
		refusedOpen(t, "a byte more", k, append(b, 0), api.ErrFull)
	}
}

// P9.2: of whom there is no seal nothing is opened, whatever the tag.
func TestOpenWho(t *testing.T) {
	all := table(nodes + 2)
	for n := range nodes + 3 {
		k := api.Keys{Seals: all.Seals[:min(n, len(all.Seals))], Roots: all.Roots}
		for from := range nodes {
			b := sealedOf(all, vote(from))
			if from < n {
				opened(t, "a seal", k, b, vote(from))
				continue
			}
			refusedOpen(t, "no seal", k, b, api.ErrWho)
			refusedOpen(t, "no seal, and another tag", k, append(slices.Clone(b[:len(b)-1]), b[len(b)-1]^1), api.ErrWho)
			refusedOpen(t, "no seal, tagged by an empty one", k, tagged(nil, b[:bare]), api.ErrWho)
		}
	}
}

// P9.2: each bit of the tag counts.
func TestOpenTag(t *testing.T) {
	k := table(nodes)
	for _, m := range []api.Msg{vote(0), vote(15), withBody(20, 3, 0, 150)} {
		b := sealedOf(k, m)
		end := len(b) - tagSize
		for i := range tagSize * 8 {
			b[end+i/8] ^= 1 << (i % 8)
			refusedOpen(t, "a bit of the tag", k, b, api.ErrTag)
			b[end+i/8] ^= 1 << (i % 8)
		}
		opened(t, "as it was", k, b, m)
		refusedOpen(t, "no tag", k, append(slices.Clone(b[:end]), make([]byte, tagSize)...), api.ErrTag)
		refusedOpen(t, "the tag of nothing", k, append(slices.Clone(b[:end]), tagOf(k.Seals[m.From], nil)...), api.ErrTag)
		refusedOpen(t, "the tag of the whole", k, append(slices.Clone(b[:end]), tagOf(k.Seals[m.From], b)...), api.ErrTag)
		refusedOpen(t, "the tag by no key", k, tagged(nil, b[:end]), api.ErrTag)
		for from, seal := range k.Seals {
			if from != m.From {
				refusedOpen(t, "another one's seal", k, tagged(seal, b[:end]), api.ErrTag)
			}
		}
	}
}

// P9.2: the tag of one message is none for another.
func TestOpenOfAnother(t *testing.T) {
	k := table(nodes)
	l := []api.Msg{vote(5), withBody(20, 3, 0, 150)}
	for range 8 {
		l = append(l, vote(5))
	}
	l[2].Kind, l[3].View, l[4].Reg, l[5].Slot, l[6].Hash[31], l[7].From = 3, 2, 3, 51, 8, 6
	l[8].Body, l[9].Parts = []byte{0}, [][]byte{nil}
	for i, m := range l {
		for j, n := range l {
			b, other := sealedOf(k, m), sealedOf(k, n)
			mixed := append(slices.Clone(b[:len(b)-tagSize]), other[len(other)-tagSize:]...)
			if i == j {
				opened(t, "its own", k, mixed, m)
			} else {
				refusedOpen(t, "another one's tag", k, mixed, api.ErrTag)
			}
		}
	}
}

// P9.2: no bit of a sealed message can be changed.
func TestOpenOfChanged(t *testing.T) {
	k := table(nodes)
	tags, others := 0, 0
	for _, m := range []api.Msg{vote(5), withBody(20, 3, 0, 150)} {
		b := sealedOf(k, m)
		for i := range 8 * (len(b) - tagSize) {
			b[i/8] ^= 1 << (i % 8)
			if _, want := wire.Get(b[:len(b)-tagSize]); want != api.OK {
				others++
				refusedOpen(t, "no message any more", k, b, want)
			} else {
				tags++
				refusedOpen(t, "another message", k, b, api.ErrTag)
			}
			b[i/8] ^= 1 << (i % 8)
		}
		opened(t, "as it was", k, b, m)
	}
	if tags == 0 || others == 0 {
		t.Errorf("%d other messages, %d that are none", tags, others)
	}
}

// P9.2: it is by the table that is asked, not by any other, that a tag is right.
func TestOpenByAnotherTable(t *testing.T) {
	k := table(nodes)
	for from := range nodes {
		b := sealedOf(k, vote(from))
		other := api.Keys{Seals: slices.Clone(k.Seals)}
		other.Seals[from] = append(slices.Clone(k.Seals[from]), 1)
		refusedOpen(t, "another seal", other, b, api.ErrTag)
		opened(t, "this seal", other, tagged(other.Seals[from], b[:bare]), vote(from))
		other = api.Keys{Seals: make([][]byte, nodes)}
		other.Seals[from] = k.Seals[from]
		opened(t, "this seal alone", other, b, vote(from))
	}
	// Who has one seal with another could have sealed what is the other's.
	same := api.Keys{Seals: [][]byte{{7}, {7}}}
	opened(t, "one seal of two", same, sealedOf(same, vote(1)), vote(1))
}

// masks are of all sorts: those of no right view among them.
func masks() []uint16 {
	l := []uint16{0, 0xffff, 0x0f, 0x7b, 0x7f, 0xff, 0xf000, 0xfe00, 0x5555, 0xaaaa}
	for i := range nodes {
		l = append(l, 1<<i, ^uint16(1<<i))
	}
	r := chance()
	for range 40 {
		l = append(l, uint16(r.Uint64()))
	}
	return l
}

// P9.2: OpenOf opens what a member of the view sealed, whether the view is right or not.
func TestOpenOf(t *testing.T) {
	k := table(nodes)
	for from := range nodes {
		m := vote(from)
		b := sealedOf(k, m)
		for i, mask := range masks() {
			v := api.View{Num: i % 61, Mask: mask}
			if mask>>from&1 == 0 {
				refusedOf(t, "no member", k, v, b, api.ErrWho)
			} else if got, e := seals.OpenOf(k, v, b); e != api.OK || !samples.SameMsg(got, m) {
				t.Errorf("%d in %v: %v, %v", from, v, got, e)
			}
		}
	}
}

// P9.2: the view's number tells nothing, nor does the message's.
func TestOpenOfNumbers(t *testing.T) {
	k := table(nodes)
	for _, num := range append(samples.Numbers(), 59, 60, 61) {
		for _, of := range []int{0, 1, 59, 60} {
			m := vote(3)
			m.View = of
			b := sealedOf(k, m)
			if got, e := seals.OpenOf(k, api.View{Num: num, Mask: 0x0f}, b); e != api.OK || !samples.SameMsg(got, m) {
				t.Errorf("view %d, message's %d: %v, %v", num, of, got, e)
			}
			refusedOf(t, "no member", k, api.View{Num: num, Mask: 0xf7}, b, api.ErrWho)
		}
	}
}

// P9.2: Open's errors are told ahead of a sender that is no member.
func TestOpenOfInOrder(t *testing.T) {
	k := table(nodes)
	v := api.View{Mask: 0x0f}
	b := sealedOf(k, vote(5))
	refusedOf(t, "no member", k, v, b, api.ErrWho)
	b[len(b)-1] ^= 1
	refusedOf(t, "no member, and not sealed", k, v, b, api.ErrTag)
	refusedOf(t, "no member, and left bytes", k, v, tagged(k.Seals[5], append(b[:bare:bare], 0)), api.ErrForm)
	b[0] = 0
	refusedOf(t, "no member, and not formed", k, v, tagged(k.Seals[5], b[:bare]), api.ErrArg)
	refusedOf(t, "no member, and cut", k, v, b[:tagSize-1], api.ErrShort)
}
