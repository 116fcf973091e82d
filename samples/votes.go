package samples

import (
	"bytes"

	"consistory/api"
)

// Sealer puts the seal of its sender on a message.
type Sealer func(k api.Keys, m api.Msg) ([]byte, api.Errno)

// By is m as that one seals it; it must be such as can be sealed.
func By(seal Sealer, k api.Keys, from int, m api.Msg) []byte {
	m.From = from
	b, e := seal(k, m)
	if e != api.OK {
		panic(e)
	}
	return b
}

// ByAll is m as each of them seals it.
func ByAll(seal Sealer, k api.Keys, m api.Msg, from ...int) [][]byte {
	var l [][]byte
	for _, i := range from {
		l = append(l, By(seal, k, i, m))
	}
	return l
}

// WithBody is m with a body and parts, made by n, for which no vote is asked.
func WithBody(m api.Msg, n byte) api.Msg {
	m.Body, m.Parts = []byte{n, 1}, [][]byte{{n}, nil, {2, n}}
	return m
}

// Changed is m with another kind, a view, slot or digest near by, or a body and parts; at
// times none of these is another one. Where m's view and slot are at an end there may be
// no such message.
func Changed(s Source, m api.Msg) api.Msg {
	switch below(s, 5) {
	case 0:
		m.Kind = api.MPropose + below(s, api.MReq)
	case 1:
		m.View += below(s, 3) - 1
	case 2:
		m.Slot += below(s, 3) - 1
	case 3:
		m.Hash[below(s, len(m.Hash))] ^= 1 << below(s, 8)
	case 4:
		m = WithBody(m, byte(below(s, 3)))
	}
	return m
}

// Cut is b without its last byte.
func Cut(b []byte) []byte {
	return b[:len(b)-1]
}

// Spoilt is b with another last bit.
func Spoilt(b []byte) []byte {
	b = bytes.Clone(b)
	b[len(b)-1] ^= 1
	return b
}
