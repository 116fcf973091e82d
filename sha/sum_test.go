package sha_test

import (
	"bytes"
	"strings"
	"testing"

	"consistory/api"
	"consistory/samples"
	"consistory/sha"
)

// P2.1: digests that are known, the edges of a block among them.
func TestSumKnown(t *testing.T) {
	for _, c := range []struct {
		text, want string
	}{
		{"", "e3b0c44298fc1c149afbf4c8996fb92427ae41e4649b934ca495991b7852b855"},
		{"abc", "ba7816bf8f01cfea414140de5dae2223b00361a396177a9cb410ff61f20015ad"},
		{"abcdbcdecdefdefgefghfghighijhijkijkljklmklmnlmnomnopnopq", "248d6a61d20638b8e5c026930c3e6039a33ce45964ff2167f6ecedd419db06c1"},
		{strings.Repeat("a", 55), "9f4390f8d30c2dd92ec9f095b65e2b9ae9b0a925a5258e241c9f1e910f734318"},
		{strings.Repeat("a", 56), "b35439a4ac6f0948b6d6f9e3c6af0f5f590ce20f1bde7090ef7970686ec6738a"},
		{strings.Repeat("a", 63), "7d3e74a05d7db15bce4ad9ec0658ea98e3f06eeecf16b4c6fff2da457ddc2f34"},
		{strings.Repeat("a", 64), "ffe054fe7ae0cb6dc65c3af9b61d5209f439851db43d0ba5997337df154668eb"},
		{strings.Repeat("a", 65), "635361c48bb9eab14198e76ea8ab7f1a41685d6ad62aa9146d301d4f17eb0ae0"},
		{strings.Repeat("a", 119), "31eba51c313a5c08226adf18d4a359cfdfd8d2e816b13f4af952f7ea6584dcfb"},
		{strings.Repeat("a", 120), "2f3d335432c70b580af0e8e1b3674a7c020d683aa5f73aaaedfdc55af904c21c"},
		{strings.Repeat("a", 127), "c57e9278af78fa3cab38667bef4ce29d783787a2f731d4e12200270f0c32320a"},
		{strings.Repeat("a", 128), "6836cf13bac400e9105071cd6af47084dfacad4e5e302c94bfed24e013afb73e"},
		{strings.Repeat("a", 1000000), "cdc76e5c9914fb9281a1c7e284d73e67f1809a48a497200e046d39ccc7112cd0"},
	} {
		if got := hexed(sha.Sum([]byte(c.text))); got != c.want {
			t.Errorf("of %d bytes: %s; want %s", len(c.text), got, c.want)
		}
	}
}

// P2.1: texts of each length about the first blocks, and of long ones.
func TestSumLengths(t *testing.T) {
	r := chance()
	check := func(text []byte) {
		t.Helper()
		if got, want := sha.Sum(text), reference(text); got != want {
			t.Errorf("of %d bytes: %x; want %x", len(text), got, want)
		}
	}
	for n := range 330 {
		check(make([]byte, n))
		check(bytes.Repeat([]byte{0xff}, n))
		check(samples.Text(r, n))
	}
	for _, n := range []int{1000, 1 << 12, 8191, 8192, api.MaxText - 9, api.MaxText, api.MaxText + 1, 1<<21 - 1, 1 << 21, 1<<21 + 1} {
		check(samples.Text(r, n))
	}
}

// P2.1: each bit of a text tells in its digest.
func TestSumBits(t *testing.T) {
	for _, n := range edges() {
		text := make([]byte, n)
		seen := map[api.Hash]bool{sha.Sum(text): true}
		for i := range 8 * n {
			text[i/8] ^= 1 << (i % 8)
			h := sha.Sum(text)
			if seen[h] || h != reference(text) {
				t.Errorf("bit %d of %d bytes: %x", i, n, h)
			}
			seen[h] = true
			text[i/8] ^= 1 << (i % 8)
		}
	}
}

// P2.1: the length is told in eight bytes: of this text by more than four.
func TestSumOfManyBytes(t *testing.T) {
	if testing.Short() {
		t.Skip("it takes seconds")
	}
	text := make([]byte, 1<<29+3)
	text[1<<28], text[1<<29] = 1, 2
	if got, want := sha.Sum(text), reference(text); got != want {
		t.Errorf("%x; want %x", got, want)
	}
}

// P2.1: of two digests, the first one first.
func TestPair(t *testing.T) {
	r := chance()
	a, b := sha.Sum([]byte("a")), sha.Sum([]byte("b"))
	if got := hexed(sha.Pair(a, b)); got != "e5a01fee14e0ed5c48714f22180f25ad8365b53f9779f79dc4a3d7e93963f94a" {
		t.Error("of a and b:", got)
	}
	if sha.Pair(a, b) == sha.Pair(b, a) {
		t.Error("turned about it is the same")
	}
	if got, want := sha.Pair(api.Hash{}, api.Hash{}), sha.Sum(make([]byte, 64)); got != want {
		t.Errorf("of noughts: %x; want %x", got, want)
	}
	for range 200 {
		a, b := samples.Hash(r), samples.Hash(r)
		if got, want := sha.Pair(a, b), reference(a[:], b[:]); got != want {
			t.Errorf("of %x, %x: %x; want %x", a, b, got, want)
		}
		if got, want := sha.Pair(a, a), reference(a[:], a[:]); got != want {
			t.Errorf("of %x twice: %x; want %x", a, got, want)
		}
	}
}

// P2.1: each text has its length ahead of it.
func TestAll(t *testing.T) {
	long := bytes.Repeat([]byte{7}, 300)
	for _, c := range []struct {
		l    [][]byte
		told []byte
	}{
		{nil, nil},
		{[][]byte{}, nil},
		{[][]byte{nil}, []byte{0}},
		{[][]byte{{}}, []byte{0}},
		{[][]byte{nil, {}, nil}, []byte{0, 0, 0}},
		{[][]byte{{1}, nil, {2, 3}}, []byte{1, 1, 0, 2, 2, 3}},
		{[][]byte{nil, {2, 3}, {1}}, []byte{0, 2, 2, 3, 1, 1}},
		{[][]byte{long[:127]}, append([]byte{127}, long[:127]...)},
		{[][]byte{long[:128], {9}}, append(append([]byte{0x80, 1}, long[:128]...), 1, 9)},
		{[][]byte{long, long[:1]}, append(append([]byte{0xac, 2}, long...), 1, 7)},
	} {
		if got, want := sha.All(c.l), reference(c.told); got != want {
			t.Errorf("of %d texts: %x; want %x", len(c.l), got, want)
		}
	}
}

// P2.1: lists whose bytes are together at the edges of a block, however they are cut.
func TestAllEdges(t *testing.T) {
	r := chance()
	for _, n := range edges() {
		for range 20 {
			var l [][]byte
			var told []byte
			for len(told) < n {
				text := samples.Text(r, r.IntN(min(n-len(told), 100)))
				l = append(l, text)
				told = append(append(told, byte(len(text))), text...)
			}
			if got, want := sha.All(l), reference(told); len(told) != n || got != want {
				t.Errorf("of %d texts, %d bytes: %x; want %x", len(l), len(told), got, want)
			}
		}
	}
	long := samples.Text(r, api.MaxText)
	if got, want := sha.All([][]byte{long, long}), reference([]byte{0x80, 0x80, 4}, long, []byte{0x80, 0x80, 4}, long); got != want {
		t.Errorf("of long texts: %x; want %x", got, want)
	}
}

// P2.1: where one text ends and the next begins tells, and which is ahead.
func TestAllTellsTexts(t *testing.T) {
	seen := map[api.Hash]int{}
	lists := [][][]byte{
		{}, {{}}, {{}, {}}, {{0}}, {{0}, {}}, {{}, {0}}, {{0, 0}}, {{0}, {0}}, {{1, 2}}, {{1}, {2}}, {{2}, {1}}, {{1, 2}, {}}, {{}, {1, 2}}, {{1, 1, 2}},
	}
	for i, l := range lists {
		h := sha.All(l)
		if j, was := seen[h]; was {
			t.Errorf("%v and %v have one digest", lists[j], l)
		}
		seen[h] = i
	}
}
