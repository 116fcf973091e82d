package keys_test

import (
	"bytes"
	"testing"

	"consistory/api"
	"consistory/keys"
	"consistory/mac"
	"consistory/samples"
	"consistory/sha"
)

// P5.3: seeds that another program made.
func TestSeedKnown(t *testing.T) {
	master := sha.Sum([]byte("master"))
	for client, want := range map[int]string{
		0:   "c8abbfdfffbb8a21623da31a68b3a20d9a04c029e0862936b2d31103b823bd2a",
		1:   "38595b560e8a965b2844fd9be85e34e6fddb875b6130f512f853d92284e0061b",
		5:   "7fff7866bfb4080df84fd86d5f5cf0c3d6124fa1cb72ecc3a8144904ff677e20",
		258: "c1b3dac84ec301bc9a48788500e076dea222b270ba595ad1f955345ee477b5d7",
		-1:  "9ddf972b869218cab565bf34d1c0da236883b7ed8e7dfe74de438003c713f6f0",
	} {
		if got := keys.Seed(master, client); hexed(got[:]) != want {
			t.Errorf("of client %d: %x; want %s", client, got, want)
		}
	}
}

// P5.3: of any master and client the seed has the bytes of layer 3's Derive.
func TestSeed(t *testing.T) {
	for _, master := range samples.Hashes(chance()) {
		for _, client := range samples.Numbers() {
			if got, want := keys.Seed(master, client), mac.Derive(master, client, 2); !bytes.Equal(got[:], want) {
				t.Errorf("of %x, client %d: %x; want %x", master, client, got, want)
			}
		}
	}
}

// P5.3: a table that another program made.
func TestTableKnown(t *testing.T) {
	k := keys.Table(sha.Sum([]byte("master")))
	if len(k.Seals) != 16 || len(k.Roots) != 6 {
		t.Fatalf("%d seals, %d roots", len(k.Seals), len(k.Roots))
	}
	for i, want := range map[int]string{
		0:  "82d910f076d70ea9294470d93498870f1e8e438e1174131c0e451b104a5aac7b",
		1:  "37a5b801aa0995760f92e3949a816126dc60539669dd1485eebaceeebe721a89",
		7:  "848f6ad82ddc56f8925184809493e963f93d14bade64a907f267808d29f53e0b",
		15: "f9f0f787dcf440deaac3ebfa9cd6064c65d88fa1930753234f7e17dc7c734bd7",
	} {
		if hexed(k.Seals[i]) != want {
			t.Errorf("seal %d: %x; want %s", i, k.Seals[i], want)
		}
	}
	for c, want := range [6]string{
		"c25caf32c20e05375bdf18502ebd8ff03885f51646934a39722310819ba06a63",
		"191b405de27c7cd9c939e29f7b34846e4f83adcda067103384015fcd2979c4f2",
		"c73252e45594b6f9963e3e0de2f88d7a789458d4fe8ed16c890feba503282085",
		"cd488cfd4e2fce9b3b7a0e83f25ea4d469bf3c611d504e231b012ccaf115ac4a",
		"2a5f82121c1f4b23936ede94a9448b69ec5eba32c4a274ee550f8b59e124d5f6",
		"edc33fed58a115e1577fc39856ea9b09df3a670bbd92286d07697268124ee199",
	} {
		if hexed(k.Roots[c][:]) != want {
			t.Errorf("root %d: %x; want %s", c, k.Roots[c], want)
		}
	}
}

// P5.3: of any master: each replica's seal, each client's root, and no two alike.
func TestTable(t *testing.T) {
	seen := map[string]bool{}
	masters := samples.Hashes(chance())
	for _, master := range masters {
		k := keys.Table(master)
		if len(k.Seals) != api.MaxNodes || len(k.Roots) != api.MaxClients {
			t.Fatalf("of %x: %d seals, %d roots", master, len(k.Seals), len(k.Roots))
		}
		for i, seal := range k.Seals {
			if want := mac.Derive(master, i, 1); !bytes.Equal(seal, want) {
				t.Errorf("of %x, seal %d: %x; want %x", master, i, seal, want)
			}
			seen[string(seal)] = true
		}
		for c, root := range k.Roots {
			if want := rootOf(api.Hash(mac.Derive(master, c, 2))); root != want {
				t.Errorf("of %x, root %d: %x; want %x", master, c, root, want)
			}
			seen[string(root[:])] = true
		}
	}
	if want := 22 * len(masters); len(seen) != want {
		t.Errorf("%d seals and roots of %d are unlike", len(seen), want)
	}
}

// P5.4: what a client signs by its seed is right by its root in the table, and by no other client's.
func TestTableVerifies(t *testing.T) {
	r := chance()
	master, text := samples.Hash(r), samples.Text(r, 50)
	k := keys.Table(master)
	for client := range api.MaxClients {
		sig, e := keys.Sign(keys.Seed(master, client), client, text)
		if e != api.OK {
			t.Fatal(client, e)
		}
		for c, root := range k.Roots {
			leaf, e := keys.Verify(root, text, sig)
			if c == client && (leaf != client || e != api.OK) || c != client && (leaf != 0 || e != api.ErrTag) {
				t.Errorf("of client %d by root %d: %d, %v", client, c, leaf, e)
			}
		}
	}
}
