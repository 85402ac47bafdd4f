package hashes

import (
	"strings"
	"testing"
)

// sipCase: a length, and the hashes of so many bytes 00, 01, 02 .. and of so many bytes ff.
type sipCase struct {
	length         int
	stepping, high uint64
}

// sipCases were told by another program (OpenSSL's SipHash, with results of eight bytes).
var sipCases = []struct {
	k0, k1 uint64
	cases  []sipCase
}{
	{0x0000000000000000, 0x0000000000000000, []sipCase{
		{0, 0x1e924b9d737700d7, 0x1e924b9d737700d7},
		{1, 0x8b5a0baa49fbc58d, 0x20dd4eb33d9590f2},
		{7, 0xb3d67eaf2c11480b, 0x2e029c0a4c8f48e3},
		{8, 0xc72b1c24fc2f7938, 0x8050c18b6ac9d15e},
		{9, 0x610e7ab6ada60b22, 0xbe29d70ddcf7e35d},
		{15, 0xd0567cd44e891363, 0xf3ba7836ceecdae2},
		{16, 0xc902632ed88f897f, 0x76ce753d660f2d94},
		{17, 0xe05a24800edfeef2, 0x1be2b405e26ef4fc},
		{63, 0x8825b5ec8cfb55c6, 0x43180f1fc6279dc8},
		{64, 0x8b19265d1c12cdc7, 0xdd221e6f46424a33},
		{65, 0x94527c55a4600036, 0xc6abda502273839a},
		{255, 0x893cc0a3c6b6cc38, 0xed6ad001220f838e},
		{256, 0x9d3b1c289668a3d1, 0x3d1256410bf214a1},
		{257, 0xe8398ddcd9729e96, 0x638e4604e867face},
		{263, 0x42c8656156e77af7, 0xc2802cdf7783aea4},
		{264, 0xe42cd55d8475a4a0, 0x9f21025f3d5432ad},
		{512, 0x26a05b4cab122e05, 0x294f1507212736ec},
		{1000, 0xb8ca2496e93aa513, 0x44c60e4b78e2cf0e},
	}},
	{0xffffffffffffffff, 0xffffffffffffffff, []sipCase{
		{0, 0x35dd279ee86ce565, 0x35dd279ee86ce565},
		{1, 0x63e8f5ae8073d111, 0xeb45304aebf4e114},
		{7, 0x9c578eb991de4929, 0x7008818ecf918e11},
		{8, 0x60102fcb8d4d6ae7, 0xf13e77491777f9d0},
		{9, 0x6f799eb47471146e, 0x1b8d0792b6620321},
		{15, 0x2a7ff92db91c083e, 0x5c8ba31dbb0d14c8},
		{16, 0x4f62b6cf3e7c6105, 0x1a27dd859ed29a2e},
		{17, 0x372ec52d9f3b6029, 0x5bcee02a61c29836},
		{63, 0xb8b4776e899e73c8, 0xfadde917f30eeb90},
		{64, 0xe110e483af83d01b, 0x895b823365ffb194},
		{65, 0x390bf10be58d321a, 0x6d667172a102662b},
		{255, 0x6b7375786d64f023, 0xb6da527cf0f604e3},
		{256, 0xae6222ca85b72680, 0xc1774ddffc4ff77e},
		{257, 0x62c6d61ed89a5f2b, 0xf4ba1291607478ee},
		{263, 0xf4d41cafc1160622, 0x86037038a28b25f1},
		{264, 0x0b4273b50a113ba1, 0xedae5706ed50c331},
		{512, 0xaaf1da53e7fad23c, 0x0a68ec116f24c349},
		{1000, 0xeed296a18e541973, 0xe05715da9d947117},
	}},
	{0x8000000000000000, 0x0000000000000001, []sipCase{
		{0, 0xb80261731e097a96, 0xb80261731e097a96},
		{1, 0x8e62b042227ccfb0, 0x1c479d327dadaa4b},
		{7, 0x44c627d62e3dd1bc, 0x726a97f22bd8d168},
		{8, 0x763d8b3ba06ca638, 0x36e392e77b5a77c0},
		{9, 0x6113130012a1a918, 0xc1c2e6d81b49db92},
		{15, 0x0b84907c0fa49833, 0x509b4a4250808a77},
		{16, 0xfee433a679fa5030, 0xa7c7758901e34e9f},
		{17, 0x72a7c8c52daf1524, 0x3b97aceafee73ba6},
		{63, 0x78e51d8c37467621, 0xf4b6dcb0c50aa05d},
		{64, 0x5ab30f77ee91e44e, 0xf5e26f0f425bc046},
		{65, 0x709fbbcf5d1d8900, 0xe4671c1e58567d02},
		{255, 0x1be8aec21ec51cdd, 0xc6f140cfeb7bc86a},
		{256, 0xff5c1fc177f1b941, 0x2b3c31c5a4ca08c3},
		{257, 0xef128645305f8cac, 0xa8ecc8cfd116ecdd},
		{263, 0xc433c4671442d02f, 0x10468aa0d4f56b34},
		{264, 0x132dbcba852cb87d, 0x8b8b916eb1a4b136},
		{512, 0xf9762e327d846bb4, 0xa6152b02ca073604},
		{1000, 0x99152c4fd5f764d6, 0x9cf104e1bf995677},
	}},
	{0x0706050403020100, 0x0f0e0d0c0b0a0908, []sipCase{
		{0, 0x726fdb47dd0e0e31, 0x726fdb47dd0e0e31},
		{1, 0x74f839c593dc67fd, 0xcad12f7b27ddb802},
		{7, 0xab0200f58b01d137, 0x00ac323c9a55b1dc},
		{8, 0x93f5f5799a932462, 0x2a68ff30a3d9da34},
		{9, 0x9e0082df0ba9e4b0, 0x30f4333b0ba8a712},
		{15, 0xa129ca6149be45e5, 0xc222e7ece2309af1},
		{16, 0x3f2acc7f57c29bdb, 0xa06ef3ea6d6b622e},
		{17, 0x699ae9f52cbe4794, 0x28a447da70a115da},
		{63, 0x958a324ceb064572, 0x1045ad010fe36555},
		{64, 0xacd2c40b8502cad8, 0x9dd04c283c006123},
		{65, 0x36b6bedb91a25924, 0xa5eed680dd8334f9},
		{255, 0xa9c169fec74db21a, 0x0a13f5bfc90d46c4},
		{256, 0x999d0526d2a7bfd7, 0xa7eafdce7eaf859f},
		{257, 0x8a817b8d55b29748, 0x7954351b0a747ab1},
		{263, 0x86d801b865760792, 0x0351717a7503caa4},
		{264, 0xe76e0db3fa0ee85c, 0x524b87adef710f37},
		{512, 0x883b57c3e55ada0e, 0x0ccab73b60c75cfa},
		{1000, 0xdb9b3ed69e31c9a6, 0xc4639a9d49ebfd48},
	}},
}

func TestSipOfKnownTexts(t *testing.T) {
	for _, key := range sipCases {
		for _, c := range key.cases {
			if got := Sip(key.k0, key.k1, stepping(c.length)); got != c.stepping {
				t.Errorf("Sip(%x, %x, %d stepping bytes) = %x, want %x", key.k0, key.k1, c.length, got, c.stepping)
			}
			if got := Sip(key.k0, key.k1, strings.Repeat("\xff", c.length)); got != c.high {
				t.Errorf("Sip(%x, %x, %d bytes ff) = %x, want %x", key.k0, key.k1, c.length, got, c.high)
			}
		}
	}
}

// The authors' table: the bytes 00, 01, 02 .. of each length below 16, by the key of the bytes 00 to 0f.
func TestSipOfTheAuthors(t *testing.T) {
	want := []uint64{
		0x726fdb47dd0e0e31, 0x74f839c593dc67fd, 0x0d6c8009d9a94f5a, 0x85676696d7fb7e2d,
		0xcf2794e0277187b7, 0x18765564cd99a68d, 0xcbc9466e58fee3ce, 0xab0200f58b01d137,
		0x93f5f5799a932462, 0x9e0082df0ba9e4b0, 0x7a5dbbc594ddb9f3, 0xf4b32f46226bada7,
		0x751e8fbc860ee5fb, 0x14ea5627c0843d90, 0xf723ca908e7af2ee, 0xa129ca6149be45e5,
	}
	for n, w := range want {
		if got := Sip(0x0706050403020100, 0x0f0e0d0c0b0a0908, stepping(n)); got != w {
			t.Errorf("Sip of %d bytes = %x, want %x", n, got, w)
		}
	}
}

func TestSipTellsKeysAndLengthsApart(t *testing.T) {
	seen := map[uint64]string{}
	note := func(hash uint64, what string) {
		if other, ok := seen[hash]; ok {
			t.Errorf("%s and %s have the same hash %x", what, other, hash)
		}
		seen[hash] = what
	}
	note(Sip(1, 2, ""), "key 1, 2")
	note(Sip(2, 1, ""), "key 2, 1")
	for n := 1; n < 16; n++ {
		note(Sip(1, 2, strings.Repeat("\x00", n)), strings.Repeat("00 ", n))
	}
}
