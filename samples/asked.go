package samples

import "consistory/api"

// OpOf is an op that is right for the client.
func OpOf(client int) api.Op {
	if client == 0 {
		return api.Op{Kind: api.KView, A: 31}
	}
	return api.Op{Kind: api.KPut, Key: 3, A: 5}
}

// RightOps are ops that clients other than the administrator may ask for.
func RightOps() []api.Op {
	var l []api.Op
	ends := Ends()
	for _, key := range []int{0, 1, 7, 15} {
		l = append(l, api.Op{Kind: api.KGet, Key: key}, api.Op{Kind: api.KDel, Key: key})
		for i, a := range ends {
			b := ends[(i+7)%len(ends)]
			l = append(l, api.Op{Kind: api.KPut, Key: key, A: a}, api.Op{Kind: api.KAdd, Key: key, A: a})
			l = append(l, api.Op{Kind: api.KCas, Key: key, A: a, B: b})
		}
	}
	return l
}

// WrongOps are ops that no client but the administrator may ask for, of which the bytes
// can tell it.
func WrongOps() []api.Op {
	l := []api.Op{
		{}, {Kind: 0, Key: 3}, {Kind: api.KView}, {Kind: api.KView, A: 31}, {Kind: 7}, {Kind: 128}, {Kind: 255},
	}
	for _, kind := range []int{api.KGet, api.KPut, api.KAdd, api.KCas, api.KDel} {
		for _, key := range []int{16, 17, 31, 128, 255} {
			l = append(l, api.Op{Kind: kind, Key: key})
		}
	}
	for _, x := range Ends()[1:] {
		for _, kind := range []int{api.KGet, api.KDel} {
			l = append(l, api.Op{Kind: kind, A: x}, api.Op{Kind: kind, B: x})
		}
		for _, kind := range []int{api.KPut, api.KAdd} {
			l = append(l, api.Op{Kind: kind, B: x}, api.Op{Kind: kind, A: 5, B: x})
		}
	}
	return l
}

// WrongAdminOps are ops that the administrator may not ask for, of which the bytes can
// tell it.
func WrongAdminOps() []api.Op {
	l := []api.Op{
		{}, {Kind: 7, A: 31}, {Kind: 255, A: 31}, {Kind: api.KView, Key: 1, A: 31}, {Kind: api.KView, Key: 255, A: 31},
	}
	for kind := api.KGet; kind <= api.KDel; kind++ {
		l = append(l, api.Op{Kind: kind}, api.Op{Kind: kind, A: 31})
	}
	for _, x := range Ends()[1:] {
		l = append(l, api.Op{Kind: api.KView, A: 31, B: x})
		if x < 0 || x > 65535 {
			l = append(l, api.Op{Kind: api.KView, A: x})
		}
	}
	return l
}

// RightMasks are masks of four to seven members, low and high ones.
func RightMasks() []uint16 {
	return []uint16{
		15, 0xf000, 0x8015, 0x1111, 31, 0xf800, 0x8183, 63, 0xfc00, 0x5454, 127, 0xfe00, 0x5554, 0x2aaa,
	}
}

// WrongMasks are masks of too few members, and of too many.
func WrongMasks() []uint16 {
	return []uint16{
		0, 1, 0x8000, 3, 0x8001, 7, 0x0111, 0xe000, 0xff, 0xff00, 0x0f1f, 0x7fff, 0xfffe, 0xffff,
	}
}
