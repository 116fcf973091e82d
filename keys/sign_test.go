package keys_test

import (
	"bytes"
	"crypto/sha256"
	"testing"

	"consistory/api"
	"consistory/keys"
	"consistory/ots"
	"consistory/samples"
	"consistory/sha"
)

// P5.1: roots that another program made.
func TestRootKnown(t *testing.T) {
	for seed, want := range map[api.Hash]string{
		{}:                          "474775d8777a6754a8361a0fad6d7991a9ed527c4034f0b788a664370c7381e7",
		samples.Hashes(chance())[1]: "2e0d4c9ae3d17fe1aa509812e8f7d68a37569b5488ffa71508d74908abde2ab5",
		sha.Sum([]byte("seed")):     "2214d3cad0e33265af2f58df08b9fc8cb4fac5ab43ec719a894318a4f74a9674",
	} {
		if got := keys.Root(seed); hexed(got[:]) != want {
			t.Errorf("of %x: %x; want %s", seed, got, want)
		}
	}
}

// P5.1: of any seed the root is the one above all eight leaves, two by two.
func TestRoot(t *testing.T) {
	r := chance()
	for range 5 {
		for _, seed := range samples.Hashes(r) {
			if got, want := keys.Root(seed), rootOf(seed); got != want {
				t.Errorf("of %x: %x; want %x", seed, got, want)
			}
		}
	}
}

// P5.1: each bit of the seed tells.
func TestRootTells(t *testing.T) {
	seed := samples.Hash(chance())
	seen := map[api.Hash]bool{keys.Root(seed): true}
	for bit := range 8 * len(seed) {
		other := seed
		other[bit/8] ^= 1 << (bit % 8)
		seen[keys.Root(other)] = true
	}
	if len(seen) != 257 {
		t.Errorf("%d roots of 257 are unlike", len(seen))
	}
}

// P5.1: signatures that another program made: by each leaf the digest of all of it, and the digest beside the leaf.
func TestSignKnown(t *testing.T) {
	seed := sha.Sum([]byte("seed"))
	for k, want := range [leaves][2]string{
		{"002e6636f16388f2742a378c58a09160afd4ae1539241801fd285a3f1dfd3a5f", "91c2a6b0cd7d3c1e"},
		{"4095d37f270bad19bc9dfc527b2848ad053ab52dc75b409bd8d5f41044819a78", "e3e6c779d47ef972"},
		{"a1bde3e577369e19556f25a5bfd595639f5d9d370e615d7ea0a243d6944bfa66", "58e9a86eb9a721ec"},
		{"1c3b7f81db2750be3825dbbf6cadb7b50d6bf0e223249a12f99ffaff174c1eb2", "d4415b0e11528f48"},
		{"25d4f4d4a060d1e4bbac173d3b3239b93790c978653a550235bd2b5141c8e795", "c4cc99770732d024"},
		{"6b5370bafbebee7bee6f1d605fd6a91abf1a7ac72b866deb090b110f8804f6e8", "20a661100c7b297d"},
		{"5a256d2a73af457524c34bcc1e6269aafd809a91ce4fbc10506cd41bbe1c3a8a", "d88a0e2a4e5dd013"},
		{"3a41195a4efcf97f86c2bfe16247dd15fee39fa2efeef4cbd02ca99e99704d0b", "989550fbbab468ac"},
	} {
		sig, e := keys.Sign(seed, k, []byte("text"))
		if e != api.OK || len(sig) != whole {
			t.Fatalf("by leaf %d: %d bytes, %v", k, len(sig), e)
		}
		all, beside := sha256.Sum256(sig), hexed(hashSpan(sig, 0)[:8])
		if hexed(all[:]) != want[0] || beside != want[1] {
			t.Errorf("by leaf %d: %x, beside it %s; want %v", k, all, beside, want)
		}
	}
}

// P5.1: of any seed, leaf and text: the leaf, layer 4's signature, and the digests beside the way, from below upwards.
func TestSign(t *testing.T) {
	r := chance()
	for _, seed := range samples.Hashes(r) {
		tree, texts := treeOf(seed), textsOf(r)
		for k, way := range besides() {
			text := texts[k]
			sig, e := keys.Sign(seed, k, text)
			if e != api.OK || len(sig) != whole || int(sig[0]) != k || !bytes.Equal(sig[1:wayAt], ots.Sign(seed, k, text)) {
				t.Fatalf("of %d bytes by %x, leaf %d: %x, %v", len(text), seed, k, sig, e)
			}
			for level, i := range way {
				if !bytes.Equal(hashSpan(sig, level), tree[level][i]) {
					t.Errorf("by %x, leaf %d: beside level %d stands %x; want the digest %d", seed, k, level, hashSpan(sig, level), i)
				}
			}
		}
	}
}

// P5.1: the example.
func TestSignExample(t *testing.T) {
	if sig, e := keys.Sign(api.Hash{}, 5, nil); len(sig) != 657 || sig[0] != 5 || e != api.OK {
		t.Errorf("%d bytes, %v", len(sig), e)
	}
}

// P5.1, R2: there are leaves 0 to 7, also where the last byte of a number is one of them; beside the error is nothing.
func TestSignRange(t *testing.T) {
	seed := samples.Hash(chance())
	for _, k := range append(samples.Numbers(), -8, -7, 7, 8, 9, 16, 256+3, 1<<32+7, -256, -1<<32+1) {
		sig, e := keys.Sign(seed, k, []byte("text"))
		if k >= 0 && k <= 7 {
			if e != api.OK || len(sig) != whole {
				t.Errorf("leaf %d: %d bytes, %v", k, len(sig), e)
			}
		} else if e != api.ErrRange || len(sig) != 0 {
			t.Errorf("leaf %d: %d bytes, %v", k, len(sig), e)
		}
	}
}

// P5.1: the text, the seed and the leaf each tell.
func TestSignTells(t *testing.T) {
	r := chance()
	seed, other := samples.Hash(r), samples.Hash(r)
	seen := map[string]bool{}
	for _, text := range [][]byte{nil, {'a'}, {'b'}, {'a', 0}} {
		for _, by := range []api.Hash{seed, other} {
			for k := range leaves {
				sig, _ := keys.Sign(by, k, text)
				seen[string(sig)] = true
			}
		}
	}
	if len(seen) != 64 {
		t.Errorf("%d signatures of 64 are unlike", len(seen))
	}
}
