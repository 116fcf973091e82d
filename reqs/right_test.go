package reqs_test

import (
	"math"
	"testing"

	"consistory/api"
	"consistory/reqs"
	"consistory/samples"
)

// mayHave tells which of an op's numbers a kind may have.
type mayHave struct {
	a, b bool
}

// having are the kinds of ops that are anybody's but the administrator's.
func having() map[int]mayHave {
	return map[int]mayHave{
		api.KGet: {}, api.KDel: {}, api.KPut: {a: true}, api.KAdd: {a: true}, api.KCas: {a: true, b: true},
	}
}

// others are numbers of clients that aren't the administrator, such that there are none of among them.
func others() []int {
	return []int{1, 2, 3, 4, 5, 6, 7, 255, 256, 1 << 32, math.MaxInt, -1, -256, math.MinInt}
}

// P7.1: kind by kind: what it may have, and what it may not, whoever of the others asks.
func TestRight(t *testing.T) {
	numbers := []int64{0, 1, -1, 5, math.MaxInt64, math.MinInt64, 1 << 32}
	for _, client := range others() {
		for kind := -2; kind < 10; kind++ {
			may, known := having()[kind]
			for key := -2; key < 19; key++ {
				for _, a := range numbers {
					for _, b := range numbers {
						op := api.Op{Kind: kind, Key: key, A: a, B: b}
						want := known && key >= 0 && key <= 15 && (a == 0 || may.a) && (b == 0 || may.b)
						if reqs.Right(client, op) != want {
							t.Fatalf("client %d, %v: %v", client, op, !want)
						}
					}
				}
			}
		}
	}
}

// P7.1: no number of a kind or a key is right that is far from those there are.
func TestRightFar(t *testing.T) {
	for _, x := range append(samples.Numbers(), 256+1, 1<<32+1, 1<<32+api.KCas, math.MinInt+1) {
		want := x >= 1 && x <= 5
		if got := reqs.Right(1, api.Op{Kind: x}); got != want {
			t.Errorf("kind %d: %v", x, got)
		}
		want = x >= 0 && x <= 15
		if got := reqs.Right(1, api.Op{Kind: api.KCas, Key: x, A: 1, B: 2}); got != want {
			t.Errorf("key %d: %v", x, got)
		}
		if got := reqs.Right(0, api.Op{Kind: x}); got != (x == api.KView) {
			t.Errorf("the administrator's kind %d: %v", x, got)
		}
		if got := reqs.Right(0, api.Op{Kind: api.KView, Key: x, A: 15}); got != (x == 0) {
			t.Errorf("the administrator's key %d: %v", x, got)
		}
	}
}

// P7.1: what is right, and what isn't, written out.
func TestRightKnown(t *testing.T) {
	for _, op := range samples.RightOps() {
		if !reqs.Right(1, op) || !reqs.Right(5, op) || reqs.Right(0, op) {
			t.Errorf("%v", op)
		}
	}
	for _, op := range samples.WrongOps() {
		if reqs.Right(1, op) || reqs.Right(5, op) {
			t.Errorf("%v is right", op)
		}
	}
	for _, op := range samples.WrongAdminOps() {
		if reqs.Right(0, op) {
			t.Errorf("the administrator's %v is right", op)
		}
	}
}

// P7.1: the administrator may ask for a view of each mask from 0 to 65535, and nobody else may.
func TestRightView(t *testing.T) {
	for a := range int64(65536) {
		op := api.Op{Kind: api.KView, A: a}
		if !reqs.Right(0, op) || reqs.Right(1, op) {
			t.Fatalf("%v", op)
		}
		op.B = 1
		if reqs.Right(0, op) {
			t.Fatalf("%v is right", op)
		}
	}
	for _, a := range samples.Ends() {
		if got := reqs.Right(0, api.Op{Kind: api.KView, A: a}); got != (a >= 0 && a <= 65535) {
			t.Errorf("a view of %d: %v", a, got)
		}
	}
	for _, client := range others() {
		if reqs.Right(client, api.Op{Kind: api.KView, A: 15}) {
			t.Errorf("client %d may ask for a view", client)
		}
	}
}
