package queue_test

import (
	"testing"

	"consistory/api"
	"consistory/samples"
)

// drops checks which ones wait behind a Drop, and behind the same one again; and that the batch of these replies is as it was, since none of it is dropped.
func drops(t *testing.T, what string, l []api.Req, last [clients]api.Reply, want []api.Req) {
	t.Helper()
	q := queueOf(t, l)
	next := q.Batch(last)
	for range 2 {
		q.Drop(last)
		holds(t, what, q, want)
	}
	takes(t, what, q, last, next)
}

// P16.2: drops written out by hand: each client's up to its last reply, in whatever order they wait; the others stay, in their order.
func TestDropKnown(t *testing.T) {
	for _, c := range []struct {
		wait, last, want []int
	}{
		{nil, []int{18}, nil},
		{[]int{11}, nil, []int{11}},
		{[]int{11}, []int{11}, nil},
		{[]int{12}, []int{11}, []int{12}},
		{[]int{11}, []int{18}, nil},
		{[]int{18}, []int{18}, nil},
		{[]int{18}, []int{17}, []int{18}},
		{[]int{11}, []int{8, 28, 38, 48, 58}, []int{11}},
		{[]int{1}, []int{18, 28, 38, 48, 58}, []int{1}},
		{[]int{13, 12, 11, 14}, []int{12}, []int{13, 14}},
		{[]int{13, 21, 12, 31, 11, 14, 22}, []int{12, 21}, []int{13, 31, 14, 22}},
		{[]int{13, 21, 12, 31, 11, 14, 22}, []int{18, 28, 38}, nil},
		{[]int{13, 21, 12, 31, 11, 14, 22}, []int{48, 58, 8}, []int{13, 21, 12, 31, 11, 14, 22}},
		{[]int{11, 21, 31, 41, 51, 1, 12, 22, 32, 42, 52, 2}, []int{1, 12, 31, 51}, []int{21, 41, 22, 32, 42, 52, 2}},
	} {
		drops(t, "by hand", asked(c.wait...), behind(c.last...), asked(c.want...))
	}
}

// P16.2: what isn't above its client's last reply waits no more, how far below it may be, whoever the client is, and whatever the others' replies are.
func TestDropSeqs(t *testing.T) {
	for _, r := range every() {
		for _, seq := range farSeqs() {
			var want []api.Req
			if r.Seq > seq {
				want = []api.Req{r}
			}
			for _, last := range around(r.Client, seq) {
				drops(t, "one", []api.Req{r}, last, want)
			}
		}
	}
}

// P16.2: of one client each order of five, with each last reply, among others that stay.
func TestDropOrders(t *testing.T) {
	for _, order := range samples.Orders([]int{11, 12, 13, 14, 15}) {
		l := asked(51)
		for _, d := range order {
			l = append(l, asked(d, 20+d%10)...)
		}
		for last := range 7 {
			want := asked(51)
			for _, d := range order {
				if d > 10+last {
					want = append(want, asked(d)...)
				}
				want = append(want, asked(20+d%10)...)
			}
			drops(t, "of one client", l, behind(10+last), want)
		}
	}
}

// P16.2: of the replies just the Seqs count: neither whose they say that they are, nor the slots, nor what was answered.
func TestDropBySeqs(t *testing.T) {
	for _, x := range samples.Numbers() {
		drops(t, "replies of nobody", asked(11, 21, 22, 12, 31, 23), strange(x, 21), asked(11, 22, 12, 31, 23))
	}
}

// P16.2: what was dropped is no batch's any more, not even if the replies go back.
func TestDropped(t *testing.T) {
	q := queueOf(t, asked(11, 21, 12, 13, 22))
	q.Drop(behind(12, 21))
	takes(t, "the replies went back", q, behind(), asked(13, 22))
	q.Drop(behind())
	holds(t, "nothing more", q, asked(13, 22))
	q.Drop(behind(13))
	takes(t, "one more", q, behind(), asked(22))
}

// P16.1, P16.2: what is dropped and comes again, again and again, waits once, and its place is the last one.
func TestDropAgain(t *testing.T) {
	q := queueOf(t, asked(11, 21))
	for range 40 {
		q.Drop(behind(11))
		holds(t, "dropped", q, asked(21))
		samples.Told(t, "again", api.OK, q.Add(one(1, 1)))
		samples.Told(t, "twice", api.ErrOld, q.Add(one(1, 1)), q.Add(one(2, 1)))
		holds(t, "behind the other one", q, asked(21, 11))
	}
}
