package kv_test

import (
	"math"
	"math/rand/v2"
	"testing"

	"consistory/api"
	"consistory/kv"
	"consistory/samples"
)

// P14.1: each kind of a key without a value and of one with a value, written out by hand; the chapter's example is among it. It is the same of each key, whatever the others have.
func TestDoKnown(t *testing.T) {
	none := api.Cell{}
	for _, c := range []struct {
		had  api.Cell
		op   api.Op
		ok   bool
		n    int64
		then api.Cell
	}{
		{none, api.Op{Kind: api.KGet}, false, 0, none},
		{value(7), api.Op{Kind: api.KGet}, true, 7, value(7)},
		{value(0), api.Op{Kind: api.KGet}, true, 0, value(0)},
		{value(-7), api.Op{Kind: api.KGet, A: 5, B: 6}, true, -7, value(-7)},

		{none, api.Op{Kind: api.KPut, A: 5}, true, 0, value(5)},
		{none, api.Op{Kind: api.KPut}, true, 0, value(0)},
		{value(7), api.Op{Kind: api.KPut, A: 5, B: 6}, true, 7, value(5)},
		{value(7), api.Op{Kind: api.KPut}, true, 7, value(0)},
		{value(0), api.Op{Kind: api.KPut, A: math.MinInt64}, true, 0, value(math.MinInt64)},
		{value(7), api.Op{Kind: api.KPut, A: 7}, true, 7, value(7)},

		{none, api.Op{Kind: api.KAdd, A: 5}, true, 5, value(5)},
		{none, api.Op{Kind: api.KAdd}, true, 0, value(0)},
		{value(7), api.Op{Kind: api.KAdd, A: 5, B: 6}, true, 12, value(12)},
		{value(7), api.Op{Kind: api.KAdd, A: -7}, true, 0, value(0)},
		{value(7), api.Op{Kind: api.KAdd}, true, 7, value(7)},

		{none, api.Op{Kind: api.KCas, A: 0, B: 6}, false, 0, none},
		{none, api.Op{Kind: api.KCas, A: 5, B: 6}, false, 0, none},
		{none, api.Op{Kind: api.KCas}, false, 0, none},
		{value(0), api.Op{Kind: api.KCas, A: 0, B: 6}, true, 6, value(6)},
		{value(7), api.Op{Kind: api.KCas, A: 7, B: 6}, true, 6, value(6)},
		{value(7), api.Op{Kind: api.KCas, A: 7}, true, 0, value(0)},
		{value(7), api.Op{Kind: api.KCas, A: 7, B: 7}, true, 7, value(7)},
		{value(7), api.Op{Kind: api.KCas, A: 8, B: 6}, false, 7, value(7)},
		{value(7), api.Op{Kind: api.KCas, A: -7, B: 7}, false, 7, value(7)},
		{value(-1), api.Op{Kind: api.KCas, A: math.MaxUint32, B: 6}, false, -1, value(-1)},

		{none, api.Op{Kind: api.KDel}, false, 0, none},
		{value(7), api.Op{Kind: api.KDel}, true, 7, none},
		{value(0), api.Op{Kind: api.KDel}, true, 0, none},
		{value(-7), api.Op{Kind: api.KDel, A: 5, B: 6}, true, -7, none},
	} {
		for key := range keys {
			c.op.Key = key
			want := api.Res{OK: c.ok, N: c.n}
			comes(t, only(key, c.had), c.op, only(key, c.then), want)
			others := samples.Among(allOf, []int64{3, -4, 0, 1 << 40})
			behind := others
			others[key], behind[key] = c.had, c.then
			comes(t, others, c.op, behind, want)
		}
	}
}

// P14.1: what is added goes round at the end of 64 bits.
func TestDoRound(t *testing.T) {
	for _, c := range []struct{ n, a, sum int64 }{
		{math.MaxInt64, 1, math.MinInt64}, {1, math.MaxInt64, math.MinInt64}, {math.MinInt64, -1, math.MaxInt64}, {-1, math.MinInt64, math.MaxInt64},
		{math.MaxInt64, math.MaxInt64, -2}, {math.MinInt64, math.MinInt64, 0}, {math.MaxInt64, math.MinInt64, -1}, {1 << 62, 1 << 62, math.MinInt64},
		{math.MaxInt32, 1, 1 << 31}, {math.MaxUint32, 1, 1 << 32}, {math.MinInt32, -1, -1<<31 - 1},
	} {
		comes(t, only(9, value(c.n)), api.Op{Kind: api.KAdd, Key: 9, A: c.a}, only(9, value(c.sum)), api.Res{OK: true, N: c.sum})
	}
}

// service is a model that keeps the values in a map: a key without one isn't there.
type service map[int]int64

// do does op, and tells what it comes to.
func (s service) do(op api.Op) api.Res {
	n, there := s[op.Key]
	hits := there && n == op.A
	ok := map[int]bool{api.KGet: there, api.KPut: true, api.KAdd: true, api.KCas: hits, api.KDel: there}[op.Kind]
	switch {
	case op.Key < 0 || op.Key >= keys:
		return api.Res{}
	case op.Kind == api.KPut:
		s[op.Key] = op.A
	case op.Kind == api.KAdd:
		s[op.Key] += op.A
	case op.Kind == api.KCas && hits:
		s[op.Key] = op.B
	case op.Kind == api.KDel:
		delete(s, op.Key)
	case op.Kind < 1 || op.Kind > kinds:
		return api.Res{}
	}
	if op.Kind == api.KAdd || op.Kind == api.KCas {
		n = s[op.Key] // of these what is behind is told
	}
	return api.Res{OK: ok, N: n}
}

// values are those of the model.
func (s service) values() values {
	var c values
	for key, n := range s {
		c[key] = value(n)
	}
	return c
}

// modelOf is a model that has the values c.
func modelOf(c values) service {
	s := service{}
	for key, cell := range c {
		if cell.There {
			s[key] = cell.N
		}
	}
	return s
}

// P14.1: each kind, of a key in each state, with each two numbers at the ends, held against the model.
func TestDoOfEach(t *testing.T) {
	for _, cell := range states() {
		for kind := 1; kind <= kinds; kind++ {
			for _, a := range samples.Ends() {
				for _, b := range samples.Ends() {
					op := api.Op{Kind: kind, Key: 11, A: a, B: b}
					s := modelOf(only(11, cell))
					want := s.do(op)
					comes(t, only(11, cell), op, s.values(), want)
				}
			}
		}
	}
}

// P14.1: of another kind nothing is done: the view's, those around the ones there are, and those that look like one by their lowest bytes.
func TestDoOtherKinds(t *testing.T) {
	l := []int{-255, -254, -253, -252, -251, 256 + 1, 256 + 2, 256 + 3, 256 + 4, 256 + 5, 1<<32 + 1, 1<<32 + 2, 1<<32 + 3, 1<<32 + 4, 1<<32 + 5, math.MinInt + 2}
	for kind := -20; kind < 300; kind++ {
		l = append(l, kind)
	}
	for _, kind := range append(l, samples.Numbers()...) {
		if kind >= 1 && kind <= kinds {
			continue
		}
		for key := -1; key <= keys; key++ {
			for _, a := range []int64{0, 7, 15} {
				op := api.Op{Kind: kind, Key: key, A: a, B: 8}
				comes(t, values{}, op, values{}, api.Res{})
				all := samples.Among(allOf, []int64{7, 0, -1})
				comes(t, all, op, all, api.Res{})
			}
		}
	}
}

// P14.1: of a key that isn't there nothing is done, whatever the kind: of those beside the ones there are, and of those that look like one by their lowest bytes.
func TestDoOtherKeys(t *testing.T) {
	l := []int{-16, -15, -17, 16, 17, 31, 32, -255, -256 + 15, 256 + 3, 1<<16 + 3, 1<<32 + 3, -1<<32 + 3, math.MinInt + 3}
	for _, key := range append(l, samples.Numbers()...) {
		if key >= 0 && key < keys {
			continue
		}
		for kind := -1; kind < kinds+3; kind++ {
			for _, a := range []int64{0, 7, -1} {
				op := api.Op{Kind: kind, Key: key, A: a, B: 8}
				comes(t, values{}, op, values{}, api.Res{})
				all := samples.Among(allOf, []int64{7, 0, -1})
				comes(t, all, op, all, api.Res{})
			}
		}
	}
}

// P14.1, R3: where there is no value the number means nothing: it counts as 0, and is answered as 0, also of the keys that op isn't of.
func TestDoOfStrayNumbers(t *testing.T) {
	r := chance()
	for range 3000 {
		c, op := samples.AnyCells(r), anyOp(r)
		behind, res := kv.Do(c, op)
		comes(t, samples.Strayed(c), op, behind, res)
	}
	for kind := 0; kind < kinds+2; kind++ {
		for _, key := range []int{-1, 0, 5, 15, 16} {
			for _, a := range []int64{0, samples.Strayed(values{})[5].N} {
				op := api.Op{Kind: kind, Key: key, A: a, B: 8}
				s := service{}
				want := s.do(op)
				comes(t, samples.Strayed(values{}), op, s.values(), want)
			}
		}
	}
}

// anyOp is an op of any kind and any key, at times of none that there is, with numbers that are often the same ones.
func anyOp(r *rand.Rand) api.Op {
	return api.Op{Kind: r.IntN(kinds + 2), Key: r.IntN(keys+2) - 1, A: samples.AnyNumber(r), B: samples.AnyNumber(r)}
}

// P14.1: ops one behind the other, held against the model behind each: of all keys, and of so few that each is met again and again.
func TestSessions(t *testing.T) {
	r := chance()
	for round := range 300 {
		c := samples.AnyCells(r)
		s := modelOf(c)
		for range 60 {
			op := anyOp(r)
			if round%2 == 0 {
				op.Key = r.IntN(2)
				op.A, op.B = int64(r.IntN(3)), int64(r.IntN(3))
			}
			ahead := c
			var res api.Res
			c, res = kv.Do(c, op)
			if want := s.do(op); res != want || c != s.values() {
				t.Fatalf("%v of %v: %v and %v; want %v and %v", op, ahead, c, res, s.values(), want)
			}
		}
	}
}

// P14.3: two ops on unlike keys come to the same, and leave the same values, in both orders.
func TestAnyOrder(t *testing.T) {
	r := chance()
	for first := 0; first < kinds+2; first++ {
		for second := 0; second < kinds+2; second++ {
			for one := range keys {
				for other := range keys {
					if one == other {
						continue
					}
					c, op, behind := samples.AnyCells(r), anyOp(r), anyOp(r)
					op.Kind, op.Key, behind.Kind, behind.Key = first, one, second, other
					bothOrders(t, c, op, behind)
				}
			}
		}
	}
}

// bothOrders checks that two ops can be done in any order.
func bothOrders(t *testing.T, c values, one, other api.Op) {
	t.Helper()
	a, oneFirst := kv.Do(c, one)
	a, otherSecond := kv.Do(a, other)
	b, otherFirst := kv.Do(c, other)
	b, oneSecond := kv.Do(b, one)
	if a != b || oneFirst != oneSecond || otherFirst != otherSecond {
		t.Errorf("%v and %v of %v: %v, %v and %v; turned about %v, %v and %v", one, other, c, a, oneFirst, otherSecond, b, oneSecond, otherFirst)
	}
}

// P14.3: many ops, each of its own key, in any order.
func TestAnyOrderOfMany(t *testing.T) {
	r := chance()
	for range 500 {
		c := samples.AnyCells(r)
		var ops [keys]api.Op
		var first [keys]api.Res
		ahead := c
		for key := range keys {
			ops[key] = anyOp(r)
			ops[key].Key = key
			ahead, first[key] = kv.Do(ahead, ops[key])
		}
		turned := c
		var res [keys]api.Res
		for _, key := range r.Perm(keys) {
			turned, res[key] = kv.Do(turned, ops[key])
		}
		if turned != ahead || res != first {
			t.Errorf("%v of %v: %v and %v; in another order %v and %v", ops, c, ahead, first, turned, res)
		}
	}
}
