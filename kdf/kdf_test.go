package kdf

import (
	"crypto/sha256"
	"encoding/hex"
	"math"
	"math/rand"
	"slices"
	"strings"
	"sync"
	"testing"
	"unsafe"

	"souterrain/api"
	"souterrain/blake"
	"souterrain/sha"
)

func unhex(t *testing.T, h string) string {
	t.Helper()
	b, err := hex.DecodeString(h)
	if err != nil {
		t.Fatal(h)
	}
	return string(b)
}

// chance answers texts that are the same in each run.
func chance(count, length int) []string {
	r := rand.New(rand.NewSource(2104))
	list := make([]string, count)
	for i := range list {
		b := make([]byte, length)
		r.Read(b)
		list[i] = string(b)
	}
	return list
}

// up answers the bytes 0, 1, 2 and so on, behind 255 from 0 on again.
func up(n int) string {
	b := make([]byte, n)
	for i := range b {
		b[i] = byte(i)
	}
	return string(b)
}

// flipped answers s with one bit changed.
func flipped(s string, bit int) string {
	b := []byte(s)
	b[bit/8] ^= 1 << (bit % 8)
	return string(b)
}

func suites() []int { return []int{api.Blake, api.Sha} }

func want(t *testing.T, what, got, right string) {
	t.Helper()
	if got != right {
		t.Errorf("%s: %x; want %x", what, got, right)
	}
}

func wantSum(t *testing.T, suite int, s, right string, err api.Errno) {
	t.Helper()
	if got, e := Sum(suite, s); got != right || e != err {
		t.Errorf("Sum(%d, %.100x), of %d bytes, = %x, %d; want %x, %d", suite, s, len(s), got, e, right, err)
	}
}

func wantMac(t *testing.T, suite int, key, s, right string, err api.Errno) {
	t.Helper()
	if got, e := Mac(suite, key, s); got != right || e != err {
		t.Errorf("Mac(%d, %.100x, %.100x), of %d and %d bytes, = %x, %d; want %x, %d",
			suite, key, s, len(key), len(s), got, e, right, err)
	}
}

func wantKeys(t *testing.T, suite int, key, s string, n int, right []string, err api.Errno) {
	t.Helper()
	if got, e := Derive(suite, key, s, n); !slices.Equal(got, right) || e != err {
		t.Errorf("Derive(%d, %.100x, %.100x, %d), of %d and %d bytes, = %x, %d; want %x, %d",
			suite, key, s, n, len(key), len(s), got, e, right, err)
	}
}

// sum, mac and derived are for what is right.
func sum(t *testing.T, suite int, s string) string {
	t.Helper()
	got, e := Sum(suite, s)
	if len(got) != 32 || e != api.OK {
		t.Fatalf("Sum(%d, %.100x) = %x, %d", suite, s, got, e)
	}
	return got
}

func mac(t *testing.T, suite int, key, s string) string {
	t.Helper()
	got, e := Mac(suite, key, s)
	if len(got) != 32 || e != api.OK {
		t.Fatalf("Mac(%d, %.100x, %.100x) = %x, %d", suite, key, s, got, e)
	}
	return got
}

func derived(t *testing.T, suite int, key, s string, n int) []string {
	t.Helper()
	got, e := Derive(suite, key, s, n)
	if len(got) != n || e != api.OK || slices.ContainsFunc(got, func(k string) bool { return len(k) != 32 }) {
		t.Fatalf("Derive(%d, %.100x, %.100x, %d) = %x, %d", suite, key, s, n, got, e)
	}
	return got
}

// wantSaid holds all three calls against the chapter's words, and against Go's
// own library.
func wantSaid(t *testing.T, suite int, key, s string) {
	t.Helper()
	wantSum(t, suite, s, saidSum(suite, s), api.OK)
	wantMac(t, suite, key, s, saidMac(suite, key, s), api.OK)
	wantMac(t, suite, key, s, libraryMac(suite, key, s), api.OK)
	all := saidKeys(suite, key, s)
	want(t, "all keys, in words and by the library", strings.Join(all[:], ""), libraryKeys(t, suite, key, s))
	for n := 1; n <= 3; n++ {
		wantKeys(t, suite, key, s, n, all[:n], api.OK)
	}
}

// edges are the lengths of keys around where K is no longer the key itself, and
// those of texts around the ends of blocks.
func edges() []int { return []int{0, 1, 2, 31, 32, 33, 55, 56, 63, 64, 65, 66, 127, 128, 129, 300} }

// P21: texts whose Sum is known, of both suites.
func TestSumWrittenOut(t *testing.T) {
	for text, right := range map[string][2]string{
		"": {
			"69217a3079908094e11121d042354a7c1f55b6482ca1a51e1b250dfd1ed0eef9",
			"e3b0c44298fc1c149afbf4c8996fb92427ae41e4649b934ca495991b7852b855",
		},
		"abc": {
			"508c5e8c327c14e2e1a72ba34eeb452f37458b209ed63a294d999b4c86675982",
			"ba7816bf8f01cfea414140de5dae2223b00361a396177a9cb410ff61f20015ad",
		},
		"The quick brown fox jumps over the lazy dog": {
			"606beeec743ccbeff6cbcdf5d5302aa855c256c29b88c8ed331ea1a6bf3c8812",
			"d7a8fbb307d7809469ca9abcb0082e4f8d5651e46d3cdb762d02d0bf37c9e592",
		},
		strings.Repeat("a", 1e6): {
			"bec0c0e6cde5b67acb73b81f79a67a4079ae1c60dac9d2661af18e9f8b50dfa5",
			"cdc76e5c9914fb9281a1c7e284d73e67f1809a48a497200e046d39ccc7112cd0",
		},
	} {
		wantSum(t, api.Blake, text, unhex(t, right[0]), api.OK)
		wantSum(t, api.Sha, text, unhex(t, right[1]), api.OK)
		wantSum(t, 1, text, unhex(t, right[0]), api.OK)
		wantSum(t, 2, text, unhex(t, right[1]), api.OK)
	}
}

// P21: Sum is what chapters 12 (without a key, in 32 bytes) and 11 say, for each
// length.
func TestSumIsTheirs(t *testing.T) {
	most := chance(1, 300)[0]
	for n := range len(most) + 1 {
		for _, text := range []string{most[:n], strings.Repeat("\x00", n)} {
			right, _ := blake.Sum("", text, 32)
			wantSum(t, api.Blake, text, right, api.OK)
			wantSum(t, api.Sha, text, sha.Sum(text), api.OK)
		}
	}
}

// P21: texts whose Mac is known: RFC 4231's, two more that are in everybody's
// mouth, and, for Blake, what CPython's hmac makes of the same.
func TestMacWrittenOut(t *testing.T) {
	for _, c := range []struct{ key, text, blake, sha string }{
		{"", "",
			"eaf4bb25938f4d20e72656bbbc7a9bf63c0c18537333c35bdb67db1402661acd",
			"b613679a0814d9ec772f95d778c35fc5ff1697c493715653c6c712144292c5ad"},
		{"key", "The quick brown fox jumps over the lazy dog",
			"f93215bb90d4af4c3061cd932fb169fb8bb8a91d0b4022baea1271e1323cd9a0",
			"f7bc83f430538424b13298e6aa6fb143ef4d59a14946175997479dbc2d1a3cd8"},
		{strings.Repeat("\x0b", 20), "Hi There",
			"65a8b7c5cc9136d424e82c37e2707e74e913c0655b99c75f40edf387453a3260",
			"b0344c61d8db38535ca8afceaf0bf12b881dc200c9833da726e9376c2e32cff7"},
		{"Jefe", "what do ya want for nothing?",
			"90b6281e2f3038c9056af0b4a7e763cae6fe5d9eb4386a0ec95237890c104ff0",
			"5bdcc146bf60754e6a042426089575c75a003f089d2739839dec58b964ec3843"},
		{strings.Repeat("\xaa", 20), strings.Repeat("\xdd", 50),
			"fcc4f59529502e34c3d8da3ffdab82966a2cb637ff5e9bd701135c2e9469e790",
			"773ea91e36800e46854db8ebd09181a72959098b3ef8c122d9635514ced565fe"},
		{up(26)[1:], strings.Repeat("\xcd", 50),
			"464434dcbece095d456a1d62d6ec56f898e625a39e5c52bdf94daf111bad83aa",
			"82558a389a443c0ea4cc819899f2083a85f0faa3e578f8077a2e3ff46729665b"},
		{strings.Repeat("\x0c", 20), "Test With Truncation",
			"1825eff4619fb8b20833b9432892c81b64e8fcc3caef9ca55422f02e238c5ac9",
			"a3b6167473100ee06e0c796c2955552bfa6f7c0a6a8aef8b93f860aab0cd20c5"},
		{strings.Repeat("\xaa", 131), "Test Using Larger Than Block-Size Key - Hash Key First",
			"d23d79394f53d536a096e6514447eeaabb05ded01be32c1937da6a8f7103bc4e",
			"60e431591ee0b67f0d8a26aacbf5b77f8e0bc6213728c5140546040f0ee37f54"},
		{strings.Repeat("\xaa", 131), "This is a test using a larger than block-size key and a larger than block-size data. " +
			"The key needs to be hashed before being used by the HMAC algorithm.",
			"cb60f6a791f140bf8aa2e51ff358cdb2cc5c0333045b7fb77aba7ab3b0cfb237",
			"9b09ffa71b942fcb27635fbcd5b0e944bfdc63644f0713938a7f51535c3a35e2"},
	} {
		wantMac(t, api.Blake, c.key, c.text, unhex(t, c.blake), api.OK)
		wantMac(t, api.Sha, c.key, c.text, unhex(t, c.sha), api.OK)
	}
}

// known are Macs by suite and by how many bytes the key and the text have, each
// of them the bytes 0, 1, 2 and so on. All of them are from CPython's hmac.
func known() map[int]map[int]map[int]string {
	return map[int]map[int]map[int]string{
		api.Blake: {
			0: {
				0:   "eaf4bb25938f4d20e72656bbbc7a9bf63c0c18537333c35bdb67db1402661acd",
				1:   "2c463acb9ef603333b173321a3ff0d7f7a562d569db0efb9a5cad61f6e0792cf",
				64:  "85b55a3c7af063f3d2744b2d568d2f808f33794f9791c08f0f37fbdb681d29b1",
				200: "37bfd84146a999397d51a647e2fa1ddf4195ae34da253a7be156b06db7c233b6",
			},
			1: {
				0:   "eaf4bb25938f4d20e72656bbbc7a9bf63c0c18537333c35bdb67db1402661acd",
				1:   "2c463acb9ef603333b173321a3ff0d7f7a562d569db0efb9a5cad61f6e0792cf",
				64:  "85b55a3c7af063f3d2744b2d568d2f808f33794f9791c08f0f37fbdb681d29b1",
				200: "37bfd84146a999397d51a647e2fa1ddf4195ae34da253a7be156b06db7c233b6",
			},
			63: {
				0:   "56ca49e9945f663b559db0087f5657c58970016275f55d5fba739f4cb6f94de8",
				1:   "d57a4a442bfae24ab7ee539b110ea09db2e8cc37ed5c7ad9d1f66ef0dffdabea",
				64:  "8c8410ad3a4231a2266871d16724f397a05850e4d71f005e48433d739288d75d",
				200: "332322539e1d49a255e3841c97dae802dc07fa7013f353a79886e285071a9a75",
			},
			64: {
				0:   "4a4f8f181c931253202b2d7a77e2a612f65580f4b0d56108f7f275f22b63ae00",
				1:   "da4136042156dca034e358293a0323acaed3c562fa20badf05937a282446d13d",
				64:  "16b4112bb7a7d3d85ee3baf8649046691596c5adab68f93ab0ebb4d798b8444d",
				200: "690ee478866a3698f0ed2e87e8b25fcb63e56f6c2e6baa69acec75b6d645d1ae",
			},
			65: {
				0:   "019d0d4ece4de18d4db0fe1b3b13460ff4bca4ff2b08d86e50bb1c8a799643ae",
				1:   "d94ccba6e09a25c99c60a44937a41cbb1b3d84586dbf3aaa44bdcba46a267405",
				64:  "afc14324ca3d7ecb0a92b4920d09c546ed0ab6e537853f817f415281056f63bb",
				200: "ef6a7a193a0473432359174bbb87e963f3e681642597347c2cb473e44769fd41",
			},
			127: {
				0:   "3121377cc2ae1c80d24a6b6ed982ee3ee9d72a08afaf51402121728b3d9cd993",
				1:   "812c8fab73f9f0f9e5dde683bc6a28d66a209837943b772655b03ed6987ad109",
				64:  "cfa0953c232853da348a37ffbf154f338f02f75182bb64756f3bc6f30fbbe13a",
				200: "138cd66763886a8c7e4a01f1942cbe17542da359236c16010be473f138d0aa9f",
			},
			128: {
				0:   "0b8254b1245503215401cddb2429d45041c9dddeb49d6cbe9630a93c83fd7da9",
				1:   "335d958a794c01acdbb80418db1a90efc7538261c930bc597beff0c01c9d91ad",
				64:  "327f2631e0484c853ca876c39db9a6d781c5b10d5ced388d251b994739c5f836",
				200: "1b7ad0f44ff3654523b015307aef1c4ab09a8705ba0bf6301d05752290315ca5",
			},
			1000: {
				0:   "a44e78d3b640b4c990d11867e5b00492f017b8acc7d046b8c937c4f9106872a3",
				1:   "15650607b225bfb694d54d5823158972b93bb94900f98fe203803d6be76211ee",
				64:  "35d79a143c19f101ba9c64e947c5034f2e06fbfbbe8c0725ecc462cdf1a2b508",
				200: "83673a79cccdb5b255da0750c67c9301bb75279a004bb6d26a5cbf7c52d75162",
			},
		},
		api.Sha: {
			0: {
				0:   "b613679a0814d9ec772f95d778c35fc5ff1697c493715653c6c712144292c5ad",
				1:   "6620b31f2924b8c01547745f41825d322336f83ebb13d723678789d554d8a3ef",
				64:  "34a7bf3df3b7ac1c4293bbcf5fc628feb01ca0a2670b5415e4383595298ebb60",
				200: "0b4401b24341c818f96a9814c6af33f90ebb69849f78a569cf3fb4dcc3bda21e",
			},
			1: {
				0:   "b613679a0814d9ec772f95d778c35fc5ff1697c493715653c6c712144292c5ad",
				1:   "6620b31f2924b8c01547745f41825d322336f83ebb13d723678789d554d8a3ef",
				64:  "34a7bf3df3b7ac1c4293bbcf5fc628feb01ca0a2670b5415e4383595298ebb60",
				200: "0b4401b24341c818f96a9814c6af33f90ebb69849f78a569cf3fb4dcc3bda21e",
			},
			63: {
				0:   "91a6da6e552749b42d019214821d37ec711ae369b9e717aa8b5e48ec2e9ca359",
				1:   "50cead6de0979add64fbe658882adf793a0611ee7b132e847db9ad942e89150c",
				64:  "c8380c5a59df2225aa22129ba72e1c163f3b4f62657c89e87d951cb6a7b6c125",
				200: "0ce135a0080cc09182274a8b726b30332695d787c12f253bb33d2304e8ca574c",
			},
			64: {
				0:   "3499f163f48604c0b15ac89e4e7c66f314fb3b203b8ac2f564828e62f6be9d9d",
				1:   "ea3d6f990258c952739ef98f0af63721830fbdf8bf35968b2ee4b05747d4801c",
				64:  "c4aaa100f785d6b12dd6fc8a0fc97db70e77ccc09cd95ba3bc1b5ebd66b5053a",
				200: "45f8fa81cfb242288196f6a27ce22896c8f0c3946640698a5743ab0ae9ce72e6",
			},
			65: {
				0:   "93ff3114f20ef700222fc1c0334737a51a88740dc0dd2ce0ab3151f0a4a0e85a",
				1:   "63d2b4850b1fa71cc18a452a6f22e42e43598cd32bd2764411d5d28032088b49",
				64:  "521d8991df57dcbd8b052f7eb53c0eabc5eb939b8bce409f46e232f4166c7328",
				200: "ef80c15f7ba58015f24bcbf15e64cfa5e5aae8f25b00f2ba66123fe9b0182bdb",
			},
			127: {
				0:   "afbdaa14e212bb6247065398baa5dfc866153c1ae6c0ecd8fd66f3300efcfbde",
				1:   "3c555cf7d4d219be477e892745bc1bb4ded6531ed8dadaa7f155c403a6a97ffc",
				64:  "dcd52296767292bb220e08cca33d6963dd6871364752bf65382b9c9e9d1c123d",
				200: "1de7c457ef650f243394ab7e1ee0f5cca22dfc63bae611cfd5b4359ac93a9bff",
			},
			128: {
				0:   "eea189ade9940ed7e1824c7e46960f2aa3f27e7142106a4476642c5e3adce800",
				1:   "416aebe6824f3315ddaedb3dca369e6336cb989b14390283baeb285ecea26070",
				64:  "838fc8364bba5ba102204968ed001ad55d5fe08cf12e2accbc6a459e329bcb73",
				200: "0e329a55798c159b29fcc8e416ad53d1bd20faddaaae1a427533d19b0c838bad",
			},
			1000: {
				0:   "80f2326dd543e79804a8d0495318a2a98137a8bbee046af4f4370397a437665e",
				1:   "48243f3ab9594d93059d023499117321d73cbaa41bb688d321e7c315711e3079",
				64:  "8651e58e0babf88b8201a3141859e843fad0951794a53a73bbf94a8e2e54c392",
				200: "b22e71602ba79d423999bf152fd032f6605f0b583f4c61c9ae7ffb6c6c743daf",
			},
		},
	}
}

// P21, the edges: the lengths around those where K is made otherwise.
func TestKnownLengths(t *testing.T) {
	for suite, keys := range known() {
		for keySize, list := range keys {
			for n, right := range list {
				wantMac(t, suite, up(keySize), up(n), unhex(t, right), api.OK)
			}
		}
	}
}

// P21: each key's length up to 200, each text's up to 300, and all three keys of
// texts up to 129: what SHA-256 makes of all that CPython's hmac answers, one
// behind the other.
func TestManyKnown(t *testing.T) {
	keySizes := []int{0, 1, 32, 63, 64, 65, 127, 128, 1000}
	for suite, right := range map[int][3]string{
		api.Blake: {
			"0b860b4de329c571c809c46a5e83bdb5fe4187a99ae6c80230f415d193a4aacd",
			"52607581bc466a58e2eabda70edb5490369419609bdae4725dadb1133f357e07",
			"4cfb884a162d91070ee3c54eefecc54b5ff9cc625c5f03d4325b8814e22c6bc9",
		},
		api.Sha: {
			"5a45a29e627a22fca1f296afd488b8cdbbf8d89af5a922f7ac591a98303d1ea2",
			"af47fd141cb9d349cd07e0684557a2e2885b413f32d79ee30f20f70d2173ded2",
			"b70fcc1461c86ae5b8acd07bb88be1a2c022497f49f050cb21d87f77687972bd",
		},
	} {
		all := sha256.New()
		for keySize := range 201 {
			for _, n := range []int{0, 1, 31, 32, 33, 55, 56, 63, 64, 65, 127, 128, 129} {
				all.Write([]byte(mac(t, suite, up(keySize), up(n))))
			}
		}
		want(t, "each key's length", string(all.Sum(nil)), unhex(t, right[0]))
		all.Reset()
		for n := range 301 {
			for _, keySize := range keySizes {
				all.Write([]byte(mac(t, suite, up(keySize), up(n))))
			}
		}
		want(t, "each text's length", string(all.Sum(nil)), unhex(t, right[1]))
		all.Reset()
		for _, keySize := range keySizes {
			for n := range 130 {
				all.Write([]byte(strings.Join(derived(t, suite, up(keySize), up(n), 3), "")))
			}
		}
		want(t, "all keys", string(all.Sum(nil)), unhex(t, right[2]))
	}
}

// P21: keys that are known: made by CPython's hmac, and RFC 5869's, appendix
// A.3, whose second key goes no further than 10 bytes.
func TestDeriveWrittenOut(t *testing.T) {
	for _, c := range []struct {
		suite   int
		key, s  string
		written [3]string
	}{
		{api.Blake, "", "", [3]string{
			"8387b46bf43eccfcf349552a095d8315c4055beb90208fb1be23b894bc2ed5d0",
			"58a0e5f6faefccf4807bff1f05fa8a9217945762040bcec2f4b4a62bdfe0e86e",
			"0ce6ea98ec548f8e281e93e32db65621c45eb18dc6f0a7ad94178610a2f7338e",
		}},
		{api.Blake, up(32), "", [3]string{
			"7a38c34bf2b8738d7374ca77c44ecb309a11d2b2528304fa86052c365e722624",
			"1a17621f346abdc520746a9fb64d8eb03231d674fc15687537b0780fd9c060fd",
			"4eaf02809ac4b930ef63479de62275f1c55656e61f78a3cc653c18a2223d6c5f",
		}},
		{api.Blake, "", up(32), [3]string{
			"d36c68692b681300676744097a482d8e0161a95bc9ed309b17bd78eafa8c49ae",
			"d1c083372bc55d11d5b9173caae8f0322d1de371ec5cb4d7ee1b24b682e21202",
			"fcc1b8326d2a018ae1f29650e9cae0efad7c000117ce598066dea1e7356080c8",
		}},
		{api.Blake, up(32), up(32), [3]string{
			"1fcf29000a27f12dc0691acf0f15bf4c55199f925d65441a3c08b566fce08d13",
			"704818f0cdc896cc3d7fe77c61f24e33db30aa69ef63758d5cfce8d6335c1b46",
			"7c46c5eddb1418694b9a599d7d5842039b4fbbf946e376bf59d19847342fee80",
		}},
		{api.Blake, "key", "text", [3]string{
			"a77461085480d2030b0c6370d6ab7e0c5bea9f41a3548bd5805ab9eeebfbf30a",
			"29f1d3ffce6fc8e56dc75b91201ec6d23192800cb76d45184626be4855509aa2",
			"f15ecf0859e2c26319a267e945f0dd109f81eec6730c8ad1449499c81b3b9956",
		}},
		{api.Blake, up(64), up(1), [3]string{
			"0253f3656baadd3ac7120c9d388a93f29760be79f234ecf6bdd06c8a50041f11",
			"1f9ec00a98396774bb9ffb90643b9c30488341c4bb21722715507406b2e63bcf",
			"fd75b46b67f5f7d04264011e960fa94c86226e49d076e1e4cb24ba4ba5fc72c6",
		}},
		{api.Blake, up(70), up(255), [3]string{
			"858ac690dc8cce3690a22960c32902aafbe7a88a14997a6d8951d1bd59b2cb53",
			"6463f49fef456ffc05dab6587ee686d26f69c94f69da0406dfaf95bec3365887",
			"c0c7664ce6855981f2c076cc6748d49fa1eaaf22f537002c6b4a6cb601f245d0",
		}},
		{api.Sha, "", "", [3]string{
			"eb70f01dede9afafa449eee1b1286504e1f62388b3f7dd4f956697b0e828fe18",
			"1e59c2ec0fe6e7e7ac2613b6ab65342a83379969da234240cded3777914db907",
			"5568c74fdb8fc92331d5c59e1e2dd77a8c2c63aba7cf2d3457f8ee8620462f8a",
		}},
		{api.Sha, up(32), "", [3]string{
			"1d7e0d6f1d9da2d68dabed53b5f88345f3fd01cb75411fbe5aa4293bd8f430d6",
			"3ed9b8035bbf370b8cfef7ff15007de45488e18660c84e3d996e8e6c658fa7f8",
			"deb13a41969a3f32515850a9a082e41b072c2bcaecde627cce56db90903aadc5",
		}},
		{api.Sha, "", up(32), [3]string{
			"37ad29109f43265287804b674e2653d0a513718907f97fca97c95bded8104bbf",
			"9601b7e7a7d5a882b151679d3bba7d1ecf9681ad0509bfa68434e1bfa767a51d",
			"b8133e691b64d477f96d6e4d4b8b04c01d397fec72be357d45e84855aeba402e",
		}},
		{api.Sha, up(32), up(32), [3]string{
			"7c91c1ea956b6b3d3d3a09e4d8d44547f0ca76c2b47271503918e871d59bbfa6",
			"1a015ee6f4b9ab6614f63bcbf5c811195c16c46aa8917d5e7d5465957792faf3",
			"98e1e881e8656a13379d22f092cca205eb9c1fe6bc24b02c4323638753c5b1ec",
		}},
		{api.Sha, "key", "text", [3]string{
			"d85027214658f0aa8d398f14cb87483bb8015aa4f3345fdc8cdb8aeb46292cfd",
			"cb63c47385e290851e43e591f957de9585fcfddecd20a3d397e4952b8b9f370f",
			"5bd01b1300c461534039799aad23cb9074b3cabc9ae6a69ef95050544b6480fd",
		}},
		{api.Sha, up(64), up(1), [3]string{
			"b3be843bc18569c09e2a771829a74545015e3af440b7148ce1727663cb823fc2",
			"11342c5ca90f096f6a5f1584e5b1ac2ae32d049bbd896f6099e9db1de29dd0bf",
			"5babe8a46c19da64523d8f43c324d4480002fe312273fd3a101f1cb5d46eda7a",
		}},
		{api.Sha, up(70), up(255), [3]string{
			"04a8df8fbb71fcfec36c63bc25efb332a6f4941ce7f1027dd5d750b2a2e16aef",
			"245d964f3bfe75ae14d96331a3a65d9461caac2aff55ffe6b5550bba7f9bc0a5",
			"28dac05027d764bde6b3e4a32c11899659c8b0272f911dec9245f0076ad9b3cc",
		}},
	} {
		var right []string
		for _, h := range c.written {
			right = append(right, unhex(t, h))
		}
		for n := 1; n <= 3; n++ {
			wantKeys(t, c.suite, c.key, c.s, n, right[:n], api.OK)
		}
	}
	of := strings.Repeat("\x0b", 22)
	want(t, "PRK", mac(t, api.Sha, "", of), unhex(t, "19ef24a32c717b167f33a91d6f648bdf96596776afdb6377ac434c1c293ccb04"))
	want(t, "OKM", strings.Join(derived(t, api.Sha, "", of, 2), "")[:42],
		unhex(t, "8da4e775a563c18f715f802a063c5a31b8a11f5c5ee1879ec3454e5f3c738d2d9d201395faa4b61a96c8"))
}

// P21: the chapter's words, by Mac alone: P, the byte 1, and each one behind it
// made of the one ahead and its number.
func TestDeriveByMac(t *testing.T) {
	for _, suite := range suites() {
		for _, keySize := range edges() {
			for _, n := range edges() {
				key, s := chance(1, keySize)[0], chance(2, n)[1]
				p := mac(t, suite, key, s)
				one := mac(t, suite, p, "\x01")
				two := mac(t, suite, p, one+"\x02")
				three := mac(t, suite, p, two+"\x03")
				wantKeys(t, suite, key, s, 1, []string{one}, api.OK)
				wantKeys(t, suite, key, s, 2, []string{one, two}, api.OK)
				wantKeys(t, suite, key, s, 3, []string{one, two, three}, api.OK)
			}
		}
	}
}

// P21: each length of a key with each length of a text at the edges, and each of
// a text with each of a key there, of chance and of one byte again and again.
func TestEachLength(t *testing.T) {
	most := chance(1, 300)[0]
	for _, suite := range suites() {
		for n := range 201 {
			for i, other := range edges() {
				wantSaid(t, suite, most[:n], most[i:other/2+i])
				wantSaid(t, suite, most[:other], most[i:n+i])
				wantMac(t, suite, strings.Repeat("\xff", n), strings.Repeat("\x00", other),
					saidMac(suite, strings.Repeat("\xff", n), strings.Repeat("\x00", other)), api.OK)
			}
		}
	}
}

// P21: a text of many bytes and a key of many: there is no greatest one.
func TestLongTexts(t *testing.T) {
	for _, suite := range suites() {
		for _, n := range []int{api.MaxText, api.MaxText + 1, 65535, 1 << 16, 1<<16 + 1, 1<<20 + 3} {
			long := chance(1, n)[0]
			wantSaid(t, suite, "key", long)
			wantSaid(t, suite, long, "text")
			wantSaid(t, suite, long, long)
		}
	}
}

// answers gathers what Mac and Derive make of key and s.
func answers(t *testing.T, suite int, key, s string) string {
	t.Helper()
	return mac(t, suite, key, s) + strings.Join(derived(t, suite, key, s, 3), "")
}

// P21, the edges: a key of fewer than 64 bytes and the same one with bytes 0
// behind it, up to 64, are one key; behind 64 bytes a byte 0 makes another one.
func TestBytes0BehindAKey(t *testing.T) {
	for _, suite := range suites() {
		for _, s := range append(chance(3, 100), "", "text", "\x00") {
			for n := range 64 {
				key := chance(1, n)[0]
				right := answers(t, suite, key, s)
				for _, more := range []int{1, 2, 31, 62, 63, 64} {
					same := answers(t, suite, key+strings.Repeat("\x00", more), s) == right
					if same != (n+more <= 64) {
						t.Errorf("suite %d: a key of %d bytes and it with %d bytes 0 behind it, same: %v", suite, n, more, same)
					}
				}
				if answers(t, suite, "\x00"+key, s) == right && strings.Trim(key, "\x00") != "" {
					t.Errorf("suite %d: a byte 0 ahead of a key of %d bytes does nothing", suite, n)
				}
			}
		}
	}
}

// P21, the edges: a key of more than 64 bytes and its Sum are one key. A shorter
// one and its Sum are two, and so are a key and its Sum by the other suite.
func TestLongKeyIsItsSum(t *testing.T) {
	for _, suite := range suites() {
		for _, s := range append(chance(3, 100), "", "text") {
			for _, n := range []int{0, 1, 31, 32, 33, 63, 64, 65, 66, 70, 96, 127, 128, 129, 1000, 65536} {
				key := chance(1, n)[0]
				right := answers(t, suite, key, s)
				if same := answers(t, suite, sum(t, suite, key), s) == right; same != (n > 64) {
					t.Errorf("suite %d: a key of %d bytes and its Sum, same: %v", suite, n, same)
				}
				if answers(t, suite, sum(t, 3-suite, key), s) == right {
					t.Errorf("suite %d: a key of %d bytes is the other suite's Sum", suite, n)
				}
				if n > 64 && answers(t, suite, key[:64], s) == right {
					t.Errorf("suite %d: of a key of %d bytes 64 count", suite, n)
				}
			}
		}
	}
}

// P21: the keys of a smaller n are the first ones of a greater one.
func TestFewerAreTheFirst(t *testing.T) {
	for _, suite := range suites() {
		for _, key := range append(chance(5, 70), "", "key") {
			for _, s := range append(chance(5, 32), "", "text") {
				all := derived(t, suite, key, s, 3)
				wantKeys(t, suite, key, s, 2, all[:2], api.OK)
				wantKeys(t, suite, key, s, 1, all[:1], api.OK)
			}
		}
	}
}

// apart asks that nothing that is added was there already.
func apart(t *testing.T) func(what string, answers ...string) {
	seen := map[string]string{}
	return func(what string, answers ...string) {
		t.Helper()
		for _, s := range answers {
			if was, ok := seen[s]; ok {
				t.Errorf("what %.200s made is what %.200s made: %x", what, was, s)
			}
			seen[s] = what
		}
	}
}

// P21: the suites answer otherwise for the same input, and so do the three calls,
// and each key is another one.
func TestAllDiffer(t *testing.T) {
	add := apart(t)
	for _, s := range append(chance(20, 64), "", "text", "\x00") {
		for _, suite := range suites() {
			add("Sum", sum(t, suite, s))
			for _, key := range []string{"", "key", up(65)} {
				add("Mac", mac(t, suite, key, s))
				add("Derive", derived(t, suite, key, s, 3)...)
			}
		}
	}
}

// P21: each bit of a key and of a text counts, and a key is not a text.
func TestEachBitCounts(t *testing.T) {
	for _, suite := range suites() {
		for _, n := range []int{1, 32, 63, 64, 65, 100} {
			key, s := chance(1, n)[0], chance(2, n)[1]
			add := apart(t)
			add("both", mac(t, suite, key, s))
			add("both", derived(t, suite, key, s, 3)...)
			add("one for the other", mac(t, suite, s, key))
			add("one for the other", derived(t, suite, s, key, 3)...)
			for bit := range 8 * n {
				add("another key", mac(t, suite, flipped(key, bit), s))
				add("another key", derived(t, suite, flipped(key, bit), s, 3)...)
				add("another text", mac(t, suite, key, flipped(s, bit)))
				add("another text", derived(t, suite, key, flipped(s, bit), 3)...)
			}
			for more := range 70 {
				add("a longer text", mac(t, suite, key, s+strings.Repeat("\x00", more+1)))
			}
		}
	}
}

// wrongSuites are beside both; some of them are right in fewer bits.
func wrongSuites() []int {
	return []int{0, 3, -1, -2, 4, 5, 100, 255, 256, 257, 258, -255, -254, 1<<16 + 1, 1<<16 + 2, 1<<31 - 1, 1 << 31, -1 << 31, 1<<32 + 1, 1<<32 + 2,
		-1<<32 + 1, -1<<32 + 2, 1<<40 + 2, math.MaxInt, math.MinInt, math.MaxInt - 1, math.MinInt + 1, math.MinInt + 2}
}

// wrongCounts are below and above what n may be.
func wrongCounts() []int {
	return []int{0, 4, -1, -2, -3, 5, 32, 255, 256, 257, 258, 259, -253, 1<<16 + 3, 1 << 31, -1 << 31, 1<<32 + 1, 1<<32 + 3, -1<<32 + 2,
		1 << 40, math.MaxInt, math.MinInt, math.MinInt + 1, math.MinInt + 3}
}

// P21, P1 and P2, wrong inputs: a suite at each call, an n, and both.
func TestWrongInputs(t *testing.T) {
	texts := []string{"", "\x00", "abc", up(64), up(65), strings.Repeat("\xff", 3000)}
	for _, key := range texts {
		for _, s := range texts {
			for _, suite := range wrongSuites() {
				wantSum(t, suite, s, "", api.ErrArg)
				wantMac(t, suite, key, s, "", api.ErrArg)
				for _, n := range append(wrongCounts(), 1, 2, 3) {
					wantKeys(t, suite, key, s, n, nil, api.ErrArg)
				}
			}
			for _, suite := range suites() {
				for _, n := range wrongCounts() {
					wantKeys(t, suite, key, s, n, nil, api.ErrArg)
				}
			}
		}
	}
}

// P2: with an error there is no list.
func TestNoListWithAnError(t *testing.T) {
	for _, c := range [][2]int{{0, 1}, {3, 3}, {api.Blake, 0}, {api.Sha, 4}, {-1, -1}} {
		if list, _ := Derive(c[0], "key", "text", c[1]); list != nil {
			t.Errorf("Derive of suite %d and %d keys = %x", c[0], c[1], list)
		}
	}
}

// calls answers what calls make of key and s, and all lists.
func calls(key, s string) (list []string, lists [][]string) {
	keep := func(s string, _ api.Errno) { list = append(list, s) }
	for suite := range 4 {
		keep(Sum(suite, s))
		keep(Sum(suite, key))
		keep(Mac(suite, key, s))
		keep(Mac(suite, s, key))
		for n := range 5 {
			keys, _ := Derive(suite, key, s, n)
			list = append(list, keys...)
			lists = append(lists, keys)
		}
	}
	return list, lists
}

// shares says whether two texts have a byte of memory in common.
func shares(a, b string) bool {
	if len(a) == 0 || len(b) == 0 {
		return false
	}
	p, q := uintptr(unsafe.Pointer(unsafe.StringData(a))), uintptr(unsafe.Pointer(unsafe.StringData(b)))
	return p < q+uintptr(len(b)) && q < p+uintptr(len(a))
}

// lent answers a text that lies in those bytes, and changes as they do.
func lent(b []byte) string { return unsafe.String(unsafe.SliceData(b), len(b)) }

// P2: what is handed in stays, the room behind it too, and no answer lies in it:
// also where key and text are the same bytes, and where they are refused.
func TestNothingShared(t *testing.T) {
	for _, keySize := range edges() {
		for _, n := range edges() {
			room := chance(1, keySize+n)[0] + "room behind"
			handed := []byte(room)
			whole := lent(handed)
			key, s := whole[:keySize], whole[keySize:keySize+n]
			for _, pair := range [][2]string{{key, s}, {key, whole}, {whole, s}, {whole, whole}} {
				list, _ := calls(pair[0], pair[1])
				for _, answer := range list {
					if shares(answer, whole) {
						t.Errorf("an answer by a key of %d bytes to a text of %d lies in what was handed in", keySize, n)
					}
				}
			}
			if string(handed) != room {
				t.Errorf("%x became %x", room, handed)
			}
		}
	}
}

// P2: no two answers lie in the same memory, those of one list among them, and
// what was answered stays where bytes that were handed in change later on.
func TestAnswersApart(t *testing.T) {
	handed := []byte(strings.Repeat("some text", 15))
	whole := lent(handed)
	var all []string
	for range 3 {
		for _, at := range []int{0, 32, 70} {
			list, _ := calls(whole[:at], whole[at:])
			all = append(all, list...)
		}
	}
	for i, s := range all {
		for _, other := range all[i+1:] {
			if shares(s, other) {
				t.Fatalf("two answers share %x", s)
			}
		}
	}
	first := strings.Join(all, "")
	clear(handed)
	calls("other", "text")
	if strings.Join(all, "") != first {
		t.Error("answers changed")
	}
}

// P2: a list of keys is one's own, the room behind it too: whatever is done to
// it, and whatever is asked later on, others stay as they were.
func TestListsApart(t *testing.T) {
	_, before := calls("key", "text")
	_, after := calls("key", "text")
	calls("other", "text")
	for i, list := range before {
		if !slices.Equal(list, after[i]) {
			t.Errorf("%x, and then %x", list, after[i])
		}
		list = list[:cap(list)]
		for j := range list {
			list[j] = "mine"
		}
	}
	_, again := calls("key", "text")
	for i, list := range after {
		if !slices.Equal(list, again[i]) {
			t.Errorf("%x became %x", again[i], list)
		}
	}
}

// P2: nothing is kept: the same call answers the same, whatever came between,
// what was refused included, and at the same time as others.
func TestAnswersStay(t *testing.T) {
	key, s := chance(1, 70)[0], chance(2, 150)[1]
	var group sync.WaitGroup
	for _, other := range append(chance(20, 130), "", "short", key, s) {
		group.Go(func() {
			for range 5 {
				calls(other, s)
				calls(key, other)
				wantSaid(t, api.Blake, key, s)
				wantSaid(t, api.Sha, key, s)
			}
		})
	}
	group.Wait()
	wantSaid(t, api.Blake, key, s)
	wantSaid(t, api.Sha, key, s)
}

// P21: what a suite means is a function, which makes the same of the same text
// again and again, whatever other digest was asked for in between.
func TestMeant(t *testing.T) {
	one, e := meant(api.Blake)
	other, err := meant(api.Sha)
	if e != api.OK || err != api.OK {
		t.Fatal(e, err)
	}
	for _, s := range append(chance(10, 80), "", "abc") {
		want(t, "one", one(s), saidSum(api.Blake, s))
		want(t, "the other", other(s), saidSum(api.Sha, s))
	}
	for _, suite := range wrongSuites() {
		if sum, e := meant(suite); sum != nil || e != api.ErrArg {
			t.Errorf("suite %d means something, or %d", suite, e)
		}
	}
}

// P1 and P21 for whatever comes.
func FuzzAnything(f *testing.F) {
	for i, n := range edges() {
		f.Add(i%5, chance(1, n)[0], chance(2, 300-n)[1], i%6-1)
	}
	for _, suite := range wrongSuites() {
		f.Add(suite, "é", "é", 2)
	}
	for _, n := range wrongCounts() {
		f.Add(api.Blake, up(65), "", n)
	}
	f.Fuzz(func(t *testing.T, suite int, key, s string, n int) {
		if suite != 1 && suite != 2 {
			wantSum(t, suite, s, "", api.ErrArg)
			wantMac(t, suite, key, s, "", api.ErrArg)
			wantKeys(t, suite, key, s, n, nil, api.ErrArg)
			return
		}
		if n < 1 || n > 3 {
			wantKeys(t, suite, key, s, n, nil, api.ErrArg)
		}
		wantSaid(t, suite, key, s)
	})
}

func BenchmarkDerive(b *testing.B) {
	key, s := chance(1, 32)[0], chance(2, 32)[1]
	for _, suite := range suites() {
		b.Run([]string{"", "Blake", "Sha"}[suite], func(b *testing.B) {
			for b.Loop() {
				Derive(suite, key, s, 3)
			}
		})
	}
}
