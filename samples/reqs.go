package samples

import (
	"bytes"
	"slices"

	"consistory/api"
)

const sigRoom = 1000 // bytes of a signature, at most

// ReqOf is a request of that client and that Seq, of which the op is right; nobody
// signed it.
func ReqOf(client, seq int) api.Req {
	return api.Req{Client: client, Seq: seq, Op: OpOf(client)}
}

// FormedReqs are requests that are formed, with signatures that are bytes of any sort.
func FormedReqs(s Source) []api.Req {
	var l []api.Req
	for i, op := range RightOps() {
		n := []int{0, 1, 127, 128, 657, sigRoom - 1, sigRoom}[i%7]
		l = append(l, api.Req{Client: 1 + i%(api.MaxClients-1), Seq: 1 + i%api.MaxSeq, Op: op, Sig: Text(s, n)})
	}
	for i, a := range []int64{0, 1, 15, 31, 127, 128, 0x8015, 65534, 65535} {
		l = append(l, api.Req{Client: 0, Seq: 1 + i%api.MaxSeq, Op: api.Op{Kind: api.KView, A: a}, Sig: Text(s, 100*i)})
	}
	return l
}

// WrongReqs are requests that aren't formed, each by one thing alone, of which the bytes
// can tell it.
func WrongReqs() []api.Req {
	var l []api.Req
	for _, client := range []int{6, 7, 16, 127, 128, 255} {
		l = append(l, ReqOf(client, 1))
	}
	for _, seq := range []int{0, 9, 10, 16, 128, 255} {
		l = append(l, ReqOf(0, seq), ReqOf(1, seq), ReqOf(5, seq))
	}
	for _, op := range WrongOps() {
		l = append(l, api.Req{Client: 1, Seq: 1, Op: op}, api.Req{Client: 5, Seq: 8, Op: op})
	}
	for _, op := range WrongAdminOps() {
		l = append(l, api.Req{Client: 0, Seq: 1, Op: op})
	}
	return l
}

// FarReqs are requests that aren't formed by a number that a byte can't tell, such of
// which the lowest byte would be right among them, or by the length of the signature.
func FarReqs() []api.Req {
	var l []api.Req
	for _, x := range append(Numbers(), 256+1, 256+6, 1<<32+1, 1<<32+6, -255, -250) {
		if x >= 0 && x <= 255 {
			continue
		}
		l = append(l, ReqOf(x, 1), ReqOf(1, x), ReqOf(0, x))
		l = append(l, api.Req{Client: 1, Seq: 1, Op: api.Op{Kind: x}}, api.Req{Client: 1, Seq: 1, Op: api.Op{Kind: api.KPut, Key: x}})
		l = append(l, api.Req{Client: 0, Seq: 1, Op: api.Op{Kind: x}}, api.Req{Client: 0, Seq: 1, Op: api.Op{Kind: api.KView, Key: x}})
	}
	for _, n := range []int{sigRoom + 1, sigRoom + 2, 2 * sigRoom, api.MaxText, api.MaxText + 1} {
		for client := range api.MaxClients {
			r := ReqOf(client, 1)
			r.Sig = make([]byte, n)
			l = append(l, r)
		}
	}
	return l
}

// SameReq tells whether both requests are one: no signature is one with nil.
func SameReq(r, s api.Req) bool {
	return r.Client == s.Client && r.Seq == s.Seq && r.Op == s.Op && bytes.Equal(r.Sig, s.Sig)
}

// SameReqs tells whether both lists have the same requests, one by one.
func SameReqs(l, m []api.Req) bool {
	return slices.EqualFunc(l, m, SameReq)
}
