package mac_test

import (
	"bytes"
	"testing"

	"consistory/api"
	"consistory/mac"
	"consistory/nums"
	"consistory/samples"
	"consistory/sha"
)

// P3.2: the key is the digest of master, and of who and use in eight bytes each.
func TestDerive(t *testing.T) {
	r := chance()
	for _, master := range []api.Hash{{}, samples.Hash(r), samples.Hash(r)} {
		for _, who := range samples.Numbers() {
			for _, use := range samples.Numbers() {
				if got, want := mac.Derive(master, who, use), derived(master, who, use); !bytes.Equal(got, want) {
					t.Errorf("of %x for %d and %d: %x; want %x", master, who, use, got, want)
				}
			}
		}
	}
}

// P3.2: the bytes as they stand, of a number below 0 by two's complement.
func TestDeriveBytes(t *testing.T) {
	var master api.Hash
	for i := range master {
		master[i] = byte(i + 1)
	}
	told := append(bytes.Clone(master[:]), 0, 0, 0, 0, 0, 0, 1, 2, 0xff, 0xff, 0xff, 0xff, 0xff, 0xff, 0xff, 0xfd)
	want := sha.Sum(told)
	if got := mac.Derive(master, 258, -3); !bytes.Equal(got, want[:]) {
		t.Errorf("%x; want %x", got, want)
	}
	told = nums.PutFixed(nums.PutFixed(master[:], 7, 8), 1, 8)
	want = sha.Sum(told)
	if got := mac.Derive(master, 7, 1); !bytes.Equal(got, want[:]) {
		t.Errorf("%x; want %x", got, want)
	}
}

// P3.2: master, who and use each tell, and who isn't taken for use.
func TestDeriveTells(t *testing.T) {
	r := chance()
	seen := map[api.Hash]bool{}
	masters := []api.Hash{{}, {31: 1}, {0: 1}, samples.Hash(r)}
	for _, master := range masters {
		for _, who := range samples.Numbers() {
			for _, use := range samples.Numbers() {
				seen[api.Hash(mac.Derive(master, who, use))] = true
			}
		}
	}
	if n := len(masters) * len(samples.Numbers()) * len(samples.Numbers()); len(seen) != n {
		t.Errorf("%d keys of %d are unlike", len(seen), n)
	}
}

// P3.3: what is tagged by a key that was derived is right by it.
func TestDerivedKeyTags(t *testing.T) {
	r := chance()
	master, text := samples.Hash(r), samples.Text(r, 30)
	a, b := mac.Derive(master, 0, 1), mac.Derive(master, 1, 1)
	tag := mac.Tag(a, text)
	if !mac.Check(a, text, tag) || mac.Check(b, text, tag) {
		t.Error("the tag isn't its key's alone")
	}
}
