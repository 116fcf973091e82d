package votes

import (
	"bytes"
	"cmp"
	"maps"
	"slices"

	"consistory/api"
)

// Book is what a replica has bound itself to. Where no vote came, the zero one stands:
// its kind is none.
type Book struct {
	entered  api.Vote // of the greatest regency
	slot     int      // the greatest in which something was written or accepted
	wrote    map[regency]api.Vote
	accepted api.Vote // of the greatest regency in slot
}

// regency is one, by the number of its view and its own.
type regency struct {
	view, reg int
}

// New is an empty book.
func New() *Book {
	return &Book{wrote: map[regency]api.Vote{}}
}

// Take keeps v, as far as a book does.
func (k *Book) Take(v api.Vote) api.Errno {
	if k == nil {
		return api.ErrNil
	}
	if refusal(v) != api.OK {
		return api.ErrArg
	}
	if v.Kind == api.VReg {
		k.entered = later(k.entered, v)
		return api.OK
	}
	if v.Slot < k.slot {
		return api.ErrOld
	}
	if v.Slot > k.slot {
		k.begin(v.Slot)
	}
	if v.Kind == api.VWrite {
		k.write(v)
	} else {
		k.accepted = later(k.accepted, v)
	}
	return api.OK
}

// Reg is the regency entered, and its view.
func (k *Book) Reg() (view, reg int) {
	if k == nil {
		return 0, 0
	}
	return k.entered.View, k.entered.Reg
}

// Slot is the slot of what was written and accepted.
func (k *Book) Slot() int {
	if k == nil {
		return 0
	}
	return k.slot
}

// Wrote is what was written in that regency.
func (k *Book) Wrote(view, reg int) (api.Vote, bool) {
	if k == nil {
		return api.Vote{}, false
	}
	v, is := k.wrote[regency{view, reg}]
	return copied(v), is
}

// Accepted is what was accepted last.
func (k *Book) Accepted() (api.Vote, bool) {
	if k == nil {
		return api.Vote{}, false
	}
	return copied(k.accepted), came(k.accepted)
}

// All is the votes that make the book anew.
func (k *Book) All() []api.Vote {
	if k == nil {
		return nil
	}
	var l []api.Vote
	if came(k.entered) {
		l = append(l, copied(k.entered))
	}
	for _, in := range slices.SortedFunc(maps.Keys(k.wrote), regency.compare) {
		l = append(l, copied(k.wrote[in]))
	}
	if came(k.accepted) {
		l = append(l, copied(k.accepted))
	}
	return l
}

// begin goes on to a greater slot: of the one that was nothing is kept any more.
func (k *Book) begin(slot int) {
	for in := range k.wrote {
		delete(k.wrote, in)
	}
	k.accepted, k.slot = api.Vote{}, slot
}

// write keeps v, unless something was written in its regency already.
func (k *Book) write(v api.Vote) {
	in := regencyOf(v)
	if _, is := k.wrote[in]; !is {
		k.wrote[in] = copied(v)
	}
}

// later is the one of both votes that is kept: v, if none was, or one of a lesser
// regency.
func later(kept, v api.Vote) api.Vote {
	if came(kept) && regencyOf(v).compare(regencyOf(kept)) <= 0 {
		return kept
	}
	return copied(v)
}

// came tells whether v is a vote, and doesn't stand for none.
func came(v api.Vote) bool {
	return v.Kind != 0
}

// regencyOf is the one in which v was given.
func regencyOf(v api.Vote) regency {
	return regency{v.View, v.Reg}
}

// compare tells which regency is the greater one: that of the greater view, and in one
// view that of the greater number.
func (r regency) compare(s regency) int {
	return cmp.Or(cmp.Compare(r.view, s.view), cmp.Compare(r.reg, s.reg))
}

// copied is v with memory of its own.
func copied(v api.Vote) api.Vote {
	var cert [][]byte
	for _, text := range v.Cert {
		cert = append(cert, bytes.Clone(text))
	}
	v.Batch, v.Cert = bytes.Clone(v.Batch), cert
	return v
}
