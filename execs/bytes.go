package execs

import (
	"consistory/api"
	"consistory/kv"
	"consistory/nums"
	"consistory/sha"
	"consistory/views"
)

const (
	smallSize = 1    // bytes of each of a reply's fixed numbers
	greatSize = 2    // bytes of each of a world's
	textRoom  = 1000 // bytes that are read as one of a world's texts, at most

	no, yes = 0, 1 // how it is told whether an op did
)

// Put is the bytes of w.
func Put(w api.World) []byte {
	b := nums.PutFixed(nil, uint64(w.Slot), greatSize)
	b = nums.PutFixed(b, uint64(w.First), greatSize)
	for _, text := range [...][]byte{views.Put(w.View), views.Put(w.Was), kv.Put(w.Cells)} {
		b = nums.PutText(b, text)
	}
	for _, r := range w.Last {
		b = nums.PutText(b, PutReply(r))
	}
	return b
}

// Get is the world that b tells.
func Get(b []byte) (api.World, api.Errno) {
	from := nums.New(b)
	var w api.World
	e := readWorld(from, &w)
	if e == api.OK {
		e = from.Done()
	}
	if e != api.OK {
		return api.World{}, e // not what was read ahead of the error
	}
	return w, api.OK
}

// Digest is the digest of w.
func Digest(w api.World) api.Hash {
	return sha.Sum(Put(w))
}

// PutReply is the bytes of r.
func PutReply(r api.Reply) []byte {
	did := no
	if r.Res.OK {
		did = yes
	}
	var b []byte
	for _, small := range [...]int{r.Client, r.Seq, r.Slot, did} {
		b = nums.PutFixed(b, uint64(small), smallSize)
	}
	return nums.PutFolded(b, r.Res.N)
}

// GetReply is the reply that b tells.
func GetReply(b []byte) (api.Reply, api.Errno) {
	from := nums.New(b)
	var r api.Reply
	var did int
	for _, at := range [...]*int{&r.Client, &r.Seq, &r.Slot, &did} {
		if e := readNumber(from, at, smallSize); e != api.OK {
			return api.Reply{}, e
		}
	}
	n, e := from.Folded()
	if e != api.OK {
		return api.Reply{}, e
	}
	if did != no && did != yes {
		return api.Reply{}, api.ErrForm
	}
	if e := from.Done(); e != api.OK {
		return api.Reply{}, e
	}
	r.Res = api.Res{OK: did == yes, N: n}
	return r, api.OK
}

// readWorld puts what from tells next at w, up to the error that is met first.
func readWorld(from *nums.Reader, w *api.World) api.Errno {
	for _, at := range [...]*int{&w.Slot, &w.First} {
		if e := readNumber(from, at, greatSize); e != api.OK {
			return e
		}
	}
	for _, at := range [...]*api.View{&w.View, &w.Was} {
		if e := readText(from, at, views.Get); e != api.OK {
			return e
		}
	}
	if e := readText(from, &w.Cells, kv.Get); e != api.OK {
		return e
	}
	for client := range w.Last {
		if e := readText(from, &w.Last[client], GetReply); e != api.OK {
			return e
		}
	}
	return api.OK
}

// readNumber puts the fixed number of that size that from tells next at its place.
func readNumber(from *nums.Reader, at *int, size int) api.Errno {
	x, e := from.Fixed(size)
	if e != api.OK {
		return e
	}
	*at = int(x)
	return api.OK
}

// readText puts what get makes of the text that from tells next at its place. What is
// wrong within a text is met ahead of what is behind it.
func readText[V any](from *nums.Reader, at *V, get func(b []byte) (V, api.Errno)) api.Errno {
	text, e := from.Text(textRoom)
	if e != api.OK {
		return e
	}
	*at, e = get(text)
	return e
}
