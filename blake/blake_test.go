package blake

import (
	"crypto/sha256"
	"encoding/hex"
	"math"
	"math/rand"
	"slices"
	"strings"
	"sync"
	"testing"
	"unsafe"

	"souterrain/api"
)

func unhex(t *testing.T, h string) string {
	t.Helper()
	b, err := hex.DecodeString(h)
	if err != nil {
		t.Fatal(h)
	}
	return string(b)
}

// chance answers texts that are the same in each run.
func chance(count, length int) []string {
	r := rand.New(rand.NewSource(2))
	list := make([]string, count)
	for i := range list {
		b := make([]byte, length)
		r.Read(b)
		list[i] = string(b)
	}
	return list
}

// up answers the bytes 0, 1, 2 and so on: those of the known digests.
func up(n int) string {
	b := make([]byte, n)
	for i := range b {
		b[i] = byte(i)
	}
	return string(b)
}

// flipped answers s with one bit changed.
func flipped(s string, bit int) string {
	b := []byte(s)
	b[bit/8] ^= 1 << (bit % 8)
	return string(b)
}

func want(t *testing.T, what, got, right string) {
	t.Helper()
	if got != right {
		t.Errorf("%s: %x; want %x", what, got, right)
	}
}

func wantSum(t *testing.T, key, text string, size int, right string, err api.Errno) {
	t.Helper()
	got, e := Sum(key, text, size)
	if got != right || e != err {
		t.Errorf("Sum(%.50x, %.100x, %d), of %d and %d bytes, = %x, %d; want %x, %d",
			key, text, size, len(key), len(text), got, e, right, err)
	}
}

func wantKnown(t *testing.T, key, text, right string) {
	t.Helper()
	wantSum(t, key, text, len(right)/2, unhex(t, right), api.OK)
}

// wantSaid holds Sum against the chapter's words.
func wantSaid(t *testing.T, key, text string, size int) {
	t.Helper()
	wantSum(t, key, text, size, said(key, text, size), api.OK)
}

// sum is for what Sum takes.
func sum(t *testing.T, key, text string, size int) string {
	t.Helper()
	s, e := Sum(key, text, size)
	if len(s) != size || e != api.OK {
		t.Fatalf("Sum(%x, %.100x, %d) = %x, %d", key, text, size, s, e)
	}
	return s
}

// P20: texts whose digest is known, without a key.
func TestWrittenOut(t *testing.T) {
	for text, right := range map[string]string{
		"":    "69217a3079908094e11121d042354a7c1f55b6482ca1a51e1b250dfd1ed0eef9",
		"abc": "508c5e8c327c14e2e1a72ba34eeb452f37458b209ed63a294d999b4c86675982",
		"The quick brown fox jumps over the lazy dog": "606beeec743ccbeff6cbcdf5d5302aa855c256c29b88c8ed331ea1a6bf3c8812",
		"Noise_IKpsk2_25519_ChaChaPoly_BLAKE2s":       "60e26daef327efc02ec335e2a025d2d016eb4206f87277f52d38d1988b78cd36",
		strings.Repeat("a", 1e6):                      "bec0c0e6cde5b67acb73b81f79a67a4079ae1c60dac9d2661af18e9f8b50dfa5",
	} {
		wantKnown(t, "", text, right)
	}
	wantKnown(t, up(32), strings.Repeat("a", 1e6), "fafc0450747770ea0d45bc9f01c3aaa7267f1beb4822dcfa145abdbaf616f280")
}

// known are digests, by how many bytes the key and the text have, each of them
// the bytes 0, 1, 2 and so on: as BLAKE2's own test vectors are. All of them are
// from CPython's hashlib.
func known() map[int]map[int]string {
	return map[int]map[int]string{
		0: {
			0:   "69217a3079908094e11121d042354a7c1f55b6482ca1a51e1b250dfd1ed0eef9",
			1:   "e34d74dbaf4ff4c6abd871cc220451d2ea2648846c7757fbaac82fe51ad64bea",
			2:   "ddad9ab15dac4549ba42f49d262496bef6c0bae1dd342a8808f8ea267c6e210c",
			63:  "e57cb79487dd57902432b250733813bd96a84efce59f650fac26e6696aefafc3",
			64:  "56f34e8b96557e90c1f24b52d0c89d51086acf1b00f634cf1dde9233b8eaaa3e",
			65:  "1b53ee94aaf34e4b159d48de352c7f0661d0a40edff95a0b1639b4090e974472",
			127: "f18417b39d617ab1c18fdf91ebd0fc6d5516bb34cf39364037bce81fa04cecb1",
			128: "1fa877de67259d19863a2a34bcc6962a2b25fcbf5cbecd7ede8f1fa36688a796",
			129: "5bd169e67c82c2c2e98ef7008bdf261f2ddf30b1c00f9e7f275bb3e8a28dc9a2",
			191: "d120b5ef6d57ebf06eaf96bc933c967b16cbe6e2bf00741c30aa1c54ba64801f",
			192: "58d212ad6f58aef0f80116b441e57f6195bfef26b61463edec1183cdb04fe76d",
			193: "b8836f51d1e29bdfdba325565360268b8fad627473edecef7eaefee837c74003",
			255: "f03f5789d3336b80d002d59fdf918bdb775b00956ed5528e86aa994acb38fe2d",
		},
		1: {
			0:   "cdcf93dac5437c31bf1e79a8398fbbddd1cef4427428ced165264455a9c48a95",
			1:   "fb57ef20436af865a740fc621af8840ef2eef20f6d36d364ccd2a8aa6c88c593",
			2:   "c9800880ad4f8654c37c6c0a755ee1a11d9df6d34fb1e21ae8ebf673390388e6",
			63:  "28e6458ded9053682e04d45cd46e2728469ab1699beee82af0d3fc465aec1404",
			64:  "efc5e532e4815e7bcc9fc9a685a7b5745cd2cfbc04d37c3442363eb2ca42d0c0",
			65:  "3ab120e202c7ce80d8e4bd275fcc8cac55198b21840561ff5232c6867b336ec5",
			127: "db338c74eb56874fea232e3087623b1a17652a6805b80a977150dd78759337e1",
			128: "1b3f705bac4e4646c49ba9416708cd47b0ad22cb05224bc4a7265b431db16394",
			129: "3e5d8a82b97d9e2fb4f91a64fa3d16907f5d2111214aeb5ad6e060538000b0cc",
			191: "59d451c7bc1b3dae853b026a021660a6af37b391c94f86c120c6289a245e8e57",
			192: "5d6a17bc54a185ee9983523cb1b1c43195d667fb593d35295f2d200b759be2f0",
			193: "83057b3e147c903fa8c3a7bc948b3d2c9c5f1122321c661fd803607e2b2ca9da",
			255: "57570b66f743f05d9ee800ee467e819b671f2466a047fae445bf53f6b0954d28",
		},
		31: {
			0:   "8fd216dd30a1569d75ad44645680686789db074b428a797014788f17946b331b",
			1:   "c73e1dff582f4f4706700a34e83ef79f8c68b934b40259f7dbbda36f4ad8ba00",
			64:  "365ad94b2d906a61098b9f287da2ef716314ca889147982314713fca661abae1",
			129: "c7366811b99b45594806e210ba26dd9b6b0bf7dc0405be8050e975fd0ada3d2e",
		},
		32: {
			0:   "48a8997da407876b3d79c0d92325ad3b89cbb754d86ab71aee047ad345fd2c49",
			1:   "40d15fee7c328830166ac3f918650f807e7e01e177258cdc0a39b11f598066f1",
			2:   "6bb71300644cd3991b26ccd4d274acd1adeab8b1d7914546c1198bbe9fc9d803",
			63:  "c65382513f07460da39833cb666c5ed82e61b9e998f4b0c4287cee56c3cc9bcd",
			64:  "8975b0577fd35566d750b362b0897a26c399136df07bababbde6203ff2954ed4",
			65:  "21fe0ceb0052be7fb0f004187cacd7de67fa6eb0938d927677f2398c132317a8",
			127: "ddbfea75cc467882eb3483ce5e2e756a4f4701b76b445519e89f22d60fa86e06",
			128: "0c311f38c35a4fb90d651c289d486856cd1413df9b0677f53ece2cd9e477c60a",
			129: "46a73a8dd3e70f59d3942c01df599def783c9da82fd83222cd662b53dce7dbdf",
			191: "91a25ec0ec0d9a567f89c4bfe1a65a0e432d07064b4190e27dfb81901fd3139b",
			192: "5950d39a23e1545f301270aa1a12f2e6c453776e4d6355de425cc153f9818867",
			193: "d79f14720c610af179a3765d4b7c0968f977962dbf655b521272b6f1e194488e",
			255: "3fb735061abc519dfe979e54c1ee5bfad0a9d858b3315bad34bde999efd724dd",
		},
	}
}

// P20, the edges: the lengths around a block's end, with keys and without.
func TestKnownLengths(t *testing.T) {
	for keySize, list := range known() {
		for n, right := range list {
			wantKnown(t, up(keySize), up(n), right)
		}
	}
}

// P20: digests of abc of each size, without a key and by one of 32 bytes; from
// CPython's hashlib, and those of a text of no byte, too.
func TestKnownSizes(t *testing.T) {
	for _, right := range []string{
		"0d", "d8ce", "9d3283", "df7101d3", "fe4d57ba07", "1874778958c5", "0ad038724dbeb9", "972e9d2cd6de6402",
		"c90f399e26d3702589", "4ab88bcf29cd458d4088", "4afcc9f8194c7d56592bd7", "0e8ac6520eb9581512e372a3",
		"96d9c406d8d7fcbc39bafef748", "ad04952fc18c7aa3a1122bc55f95", "99a1eabf5a6ac2bcec65068040b61a",
		"aa4938119b1dc7b87cbad0ffd200d0ae", "e8e884d3c0651b3dfbd4e212d16df1f512", "72c3967ea29c8ac2b5479e56948edc571786",
		"b63d2b052189b2a9e87130a9f0ea12a0e74aff", "5ae3b99be29b01834c3b508521ede60438f8de17",
		"9a3084680b4f082c62491b7cdb02b6779af829e77b", "0abf29b85b8af441632531a3063993dcc9d92c98bacf",
		"d9d2d875baf52136abd5bcc3cfaf50df4b6b9fdb1d2a1b", "1e2ed10fcdbc46e0ab3ea3f268a6c288083ae04e3d63a8de",
		"a2079545a7ac514b4f0bab7f84bef6be0165000a8ed15384cd", "90dc66fb51e1ec6e6baa47970a17ded50e55f1c6185ebd99f8cb",
		"6685cc4c8f2292fbca3698cba42ae63486846063de94dfa74cf6e4", "0b033fc226df7abde29f67a05d3dc62cf271ef3dfea4d387407fbd55",
		"e6a4e630c4395d0404503c7f9c4dcfc0127344c212d49f820116201565", "94de84e3a19de6f47fc956864f738578c5632d23e0def7a1528d5148474b",
		"6ffb901930ebaf1d3cabe0b60c20de3bc9dd26269325629f1671304fe6bb26",
		"508c5e8c327c14e2e1a72ba34eeb452f37458b209ed63a294d999b4c86675982",
	} {
		wantKnown(t, "", "abc", right)
	}
	for _, right := range []string{
		"d1", "473b", "8bec98", "4be84d6c", "3d55e8dd0e", "04bde8005264", "cd8ceca48f797b", "b2c4b44381d30ac8",
		"2de0ba926130f5f559", "51cab22a231b06cfd6f5", "f9f4ed3d0d05d892607c84", "a6a8824c376b4dd4d70823b9",
		"5e985d51b3af501c1984c24e26", "320419b9df0e15f148d927b99ea8", "59323669bd97a4f1454b1381c630ec",
		"61ba5f165c194692e09d12520cc4c74a", "ba689579fcd48aa523457d28e2417a30fc", "f70dd9683fbf04aedd651778d6386cdd78eb",
		"37283cd3867ceeca493a132c4c982a84ec456d", "3a2bef77b62bbf673ccf403ad0f8d2110e3147b9",
		"b1567a95b7e0466b0e65ec74d0a1e011c93926699c", "b7c6fd754da97887e12b3556b53056e7ce422af4f2eb",
		"c07cdd857b6b3179bbcb4b75c226b4d2f6e695e872cd31", "9c6d911ea05cb97a143374dae129124d54e5e583e44b64fd",
		"565094d4a3f037724450d6e0fa1ef3adfd84a4f95804920fd8", "c14c3bd4d76519b6d4aee2af0f66b90dff4dc6cc0bf23c237763",
		"f90a5ea414d8c88543ab9b2547ada0c43658e399d215243e5907bb", "68d9475f85fbe4cc53eba9b10c318cdd3b063150f3d7418ec0ffd5be",
		"ec87ea2d36dfe80ce59a6218fe0372931f96404bd72febf8e9d0ad920d", "250a5470c14e846ec0f2d57f785b800108f8b219ee9e94a2dd5cc5da4689",
		"1a7605737083f8e87c85f90aa195b801a888199d47d44325468888f2a4bb82",
		"a281f725754969a702f6fe36fc591b7def866e4b70173ece402fc01c064d6b65",
	} {
		wantKnown(t, up(32), "abc", right)
	}
	for _, right := range []string{"a1", "8f38", "64550d6ffe2c0a01a14aba1eade0200c", "1f57c56334f1ba2d62275430fdc2d2301017ba6be19864dac5a5eca012da4d"} {
		wantKnown(t, "", "", right)
	}
	for _, right := range []string{"3a", "54f3", "9536f9b267655743dee97b8a670f9f53", "13d475cef91371985b97b7e619b8ec331082fe6ed0b27d3ec66aeceae824f8"} {
		wantKnown(t, up(32), "", right)
	}
}

// edges are the lengths of texts around the ends of blocks.
func edges() []int { return []int{0, 1, 63, 64, 65, 127, 128, 129} }

// P20: each length up to 300 with each key's length, and each size with each
// key's length at the edges: what SHA-256 makes of all of CPython's hashlib's
// digests, one behind the other.
func TestManyKnown(t *testing.T) {
	all := sha256.New()
	for n := range 301 {
		for keySize := range 33 {
			all.Write([]byte(sum(t, up(keySize), up(n), 32)))
		}
	}
	want(t, "each length", string(all.Sum(nil)), unhex(t, "53f4f0c017bfd6b15cda7349bdfa310cb77b6b50cc2b52b07e8378da6047f17f"))
	all.Reset()
	for _, n := range edges() {
		for keySize := range 33 {
			for size := 1; size <= 32; size++ {
				all.Write([]byte(sum(t, up(keySize), up(n), size)))
			}
		}
	}
	want(t, "each size", string(all.Sum(nil)), unhex(t, "88e771c6c1f4bc054fefc24c7dc65ad056aef68a30fd98fae0e3568fa0c4a43f"))
}

// P20: RFC 7693, appendix E: the digest of the digests of many texts, without a
// key and by one.
func TestSelfTestOfRFC(t *testing.T) {
	made := func(n int) string {
		a, b := uint32(0xdead4bad)*uint32(n), uint32(1)
		var out []byte
		for range n {
			a, b = b, a+b
			out = append(out, byte(b>>24))
		}
		return string(out)
	}
	all := ""
	for _, size := range []int{16, 20, 28, 32} {
		for _, n := range []int{0, 3, 64, 65, 255, 1024} {
			all += sum(t, "", made(n), size) + sum(t, made(size), made(n), size)
		}
	}
	wantKnown(t, "", all, "6a411f08ce25adcdfb02aba641451cec53c598b24f4fc787fbdc88797f4c1dfe")
}

// keys are of no byte, of one, of just 32 and in between; among them some that
// end with bytes 0, and of one byte again and again.
func keys() []string {
	list := []string{"", "\x00", "\xff", "k", strings.Repeat("\x00", 32), strings.Repeat("\xff", 32), "k\x00\x00"}
	for _, n := range []int{1, 2, 15, 16, 17, 31, 32} {
		list = append(list, chance(1, n)[0])
	}
	return list
}

// P20: each length up to 400, of chance, and of one byte again and again, by
// each of the keys, in a size that is another one each time.
func TestEachLength(t *testing.T) {
	most := chance(1, 400)[0]
	for n := range len(most) + 1 {
		for i, key := range keys() {
			wantSaid(t, key, most[:n], (n+i)%32+1)
			wantSaid(t, key, strings.Repeat("\x00", n), 32)
			wantSaid(t, key, strings.Repeat("\xff", n), (n+7*i)%32+1)
		}
	}
}

// P20: each key's length and each size, at the edges.
func TestEachKeyAndSize(t *testing.T) {
	key, most := chance(1, 32)[0], chance(2, 129)[1]
	for _, n := range edges() {
		for keySize := range 33 {
			for size := 1; size <= 32; size++ {
				wantSaid(t, key[:keySize], most[:n], size)
			}
		}
	}
}

// counted says what T is at the end of each block, the last one's last, by how
// many bytes a text has: without a key and with one.
var counted = []struct {
	n              int
	without, keyed []uint64
}{
	{0, []uint64{0}, []uint64{64}},
	{1, []uint64{1}, []uint64{64, 65}},
	{63, []uint64{63}, []uint64{64, 127}},
	{64, []uint64{64}, []uint64{64, 128}},
	{65, []uint64{64, 65}, []uint64{64, 128, 129}},
	{127, []uint64{64, 127}, []uint64{64, 128, 191}},
	{128, []uint64{64, 128}, []uint64{64, 128, 192}},
	{129, []uint64{64, 128, 129}, []uint64{64, 128, 192, 193}},
}

// byEnds takes all blocks of BYTES in, each of them ending where ends says.
func byEnds(h state, bytes string, ends []uint64) string {
	bytes += strings.Repeat("\x00", 64*len(ends)-len(bytes))
	for i, end := range ends {
		h = h.behind(blockOf(bytes[64*i:64*(i+1)]), end, i == len(ends)-1)
	}
	return h.text()
}

// P20, the edges: which block is the last one, and how many BYTES there are at
// each one's end: that of the key among them.
func TestBlocksWrittenOut(t *testing.T) {
	for _, key := range keys() {
		for _, c := range counted {
			text := chance(1, c.n)[0]
			if key == "" {
				wantSum(t, key, text, 32, byEnds(begun(0, 32), text, c.without), api.OK)
			} else {
				wantSum(t, key, text, 32, byEnds(begun(len(key), 32), padded(key)+text, c.keyed), api.OK)
			}
		}
	}
}

// P20: a digest of fewer bytes isn't the front of one of more: but by chance,
// where it has few.
func TestNotTheFront(t *testing.T) {
	for _, key := range keys() {
		for _, text := range append(chance(10, 70), "", "abc", strings.Repeat("x", 64)) {
			for size := 6; size <= 32; size++ {
				for fewer := 5; fewer < size; fewer++ {
					if got := sum(t, key, text, fewer); strings.HasPrefix(sum(t, key, text, size), got) {
						t.Errorf("by %x %x is the front of another digest of %x", key, got, text)
					}
				}
			}
		}
	}
	for size := 1; size < 5; size++ {
		fronts := 0
		for _, text := range chance(2000, 20) {
			if strings.HasPrefix(sum(t, "", text, 32), sum(t, "", text, size)) {
				fronts++
			}
		}
		if fronts > 30 {
			t.Errorf("%d of 2000 digests of %d bytes are fronts", fronts, size)
		}
	}
}

// apart asks that no two digests are the same.
func apart(t *testing.T) func(key, text string) {
	seen := map[string]string{}
	return func(key, text string) {
		t.Helper()
		s, call := sum(t, key, text, 32), hex.EncodeToString([]byte(key))+", "+hex.EncodeToString([]byte(text))
		if was, ok := seen[s]; ok && was != call {
			t.Errorf("Sum of %.200s and of %.200s are the same", call, was)
		}
		seen[s] = call
	}
}

// P20: how many bytes a key has counts: by a key, and by the same one with bytes
// 0 behind it, the blocks are the same, and the digests aren't.
func TestKeysLengthCounts(t *testing.T) {
	for _, text := range append(chance(5, 100), "", "abc", strings.Repeat("\x00", 64)) {
		add := apart(t)
		for _, key := range []string{"", "k", "key\x00", chance(1, 16)[0]} {
			for n := range 33 - len(key) {
				add(key+strings.Repeat("\x00", n), text)
			}
			// The key's block is not just the front of a text.
			add("", padded(key)+text)
		}
	}
	for n, right := range []string{
		"69217a3079908094e11121d042354a7c1f55b6482ca1a51e1b250dfd1ed0eef9",
		"cdcf93dac5437c31bf1e79a8398fbbddd1cef4427428ced165264455a9c48a95",
	} {
		wantKnown(t, strings.Repeat("\x00", n), "", right)
	}
}

// P20: each bit of a key and of a text counts, and so does a byte 0 more.
func TestEachBitCounts(t *testing.T) {
	for _, n := range edges() {
		text := chance(1, n)[0]
		add := apart(t)
		for _, key := range keys() {
			add(key, text)
			for bit := range 8 * len(text) {
				add(key, flipped(text, bit))
			}
			for bit := range 8 * len(key) {
				// What is another of the keys already isn't turned.
				if other := flipped(key, bit); !slices.Contains(keys(), other) {
					add(other, text)
				}
			}
			for more := range 130 {
				add(key, text+strings.Repeat("\x00", more))
			}
		}
	}
}

// P20: there is no greatest text.
func TestLongTexts(t *testing.T) {
	for _, n := range []int{api.MaxText, api.MaxText + 1, 4096, 65535, 1 << 16, 1<<16 + 1, 1<<20 + 3} {
		text := chance(1, n)[0]
		wantSaid(t, "", text, 32)
		wantSaid(t, "some key", text, 20)
	}
}

// wrongSizes are below what there may be, and above it; some of them are right
// in fewer bits.
func wrongSizes() []int {
	return []int{0, 33, -1, -2, -31, -32, -33, 34, 64, 255, 256, 257, 288, -224, 1 << 16, 1<<16 + 32, 1<<31 - 1, 1 << 31, -1 << 31,
		1<<32 + 1, 1<<32 + 32, 1 << 32, 1<<40 + 16, -1<<32 + 5, math.MaxInt, math.MinInt, math.MaxInt - 1, math.MinInt + 1, math.MinInt + 32}
}

// P20 and P1, wrong inputs: a size, a key, and both.
func TestWrongInputs(t *testing.T) {
	texts := []string{"", "abc", strings.Repeat("x", 64), strings.Repeat("\xff", 3000)}
	long := []string{up(33), strings.Repeat("\x00", 33), strings.Repeat("é", 17), up(34), up(63), up(64), up(65), up(96), up(128),
		up(256), up(257), up(288), strings.Repeat("k", 1000), strings.Repeat("\x00", 1<<16), strings.Repeat("k", 1<<20)}
	for _, text := range texts {
		for _, size := range wrongSizes() {
			for _, key := range append(keys(), long...) {
				wantSum(t, key, text, size, "", api.ErrArg)
			}
		}
		for _, key := range long {
			for size := 1; size <= 32; size++ {
				wantSum(t, key, text, size, "", api.ErrArg)
			}
		}
	}
	// Of 16 signs with two bytes each there are 32 bytes.
	wantSaid(t, strings.Repeat("é", 16), "é", 32)
}

// calls answers what calls make of key and text.
func calls(key, text string) []string {
	var list []string
	keep := func(s string, _ api.Errno) { list = append(list, s) }
	for _, size := range []int{1, 2, 16, 31, 32, 0, 33} {
		keep(Sum(key, text, size))
		keep(Sum("", text, size))
		keep(Sum(text, key, size))
		keep(Sum(key, "", size))
	}
	return list
}

// shares says whether two texts have a byte of memory in common.
func shares(a, b string) bool {
	if len(a) == 0 || len(b) == 0 {
		return false
	}
	p, q := uintptr(unsafe.Pointer(unsafe.StringData(a))), uintptr(unsafe.Pointer(unsafe.StringData(b)))
	return p < q+uintptr(len(b)) && q < p+uintptr(len(a))
}

// lent answers a text that lies in those bytes, and changes as they do.
func lent(b []byte) string { return unsafe.String(unsafe.SliceData(b), len(b)) }

// P2: what is handed in stays, the room behind it too, and no answer lies in it:
// also where key and text are the same bytes, and where they are refused.
func TestNothingShared(t *testing.T) {
	for _, keySize := range []int{0, 1, 31, 32, 33, 64} {
		for n := range 200 {
			room := chance(1, keySize+n)[0] + "room behind"
			handed := []byte(room)
			whole := lent(handed)
			key, text := whole[:keySize], whole[keySize:keySize+n]
			for _, answer := range slices.Concat(calls(key, text), calls(key, whole), calls(whole, text)) {
				if shares(answer, whole) {
					t.Errorf("an answer by a key of %d bytes to a text of %d lies in what was handed in", keySize, n)
				}
			}
			if string(handed) != room {
				t.Errorf("%x became %x", room, handed)
			}
		}
	}
}

// P2: no two answers lie in the same memory, not even those of one byte, and
// what was answered stays where bytes that were handed in change later on.
func TestAnswersApart(t *testing.T) {
	handed := []byte(strings.Repeat("some text", 15))
	whole := lent(handed)
	var answers []string
	for range 3 {
		answers = append(answers, calls(whole[:32], whole[32:])...)
		answers = append(answers, calls("", "")...)
	}
	for i, s := range answers {
		for _, other := range answers[i+1:] {
			if shares(s, other) {
				t.Fatalf("two answers share %x", s)
			}
		}
	}
	first := strings.Join(answers, "")
	clear(handed)
	calls("other", "text")
	if strings.Join(answers, "") != first {
		t.Error("answers changed")
	}
}

// P2: nothing is kept: the same call answers the same, whatever came between,
// what was refused included, and at the same time as others.
func TestAnswersStay(t *testing.T) {
	key, text := chance(1, 32)[0], chance(1, 150)[0]
	right := said(key, text, 32)
	var group sync.WaitGroup
	for _, other := range append(chance(40, 130), "", "short", key, text) {
		group.Go(func() {
			for range 5 {
				calls(other, text)
				calls(key, other)
				wantSum(t, key, text, 32, right, api.OK)
			}
		})
	}
	group.Wait()
	wantSum(t, key, text, 32, right, api.OK)
}

// P1 and P20 for whatever comes.
func FuzzAnything(f *testing.F) {
	for i, key := range keys() {
		for _, n := range edges() {
			f.Add(key, chance(1, n)[0], i+19)
		}
	}
	for _, size := range wrongSizes() {
		f.Add("é", "é", size)
		f.Add(up(33), "", size)
	}
	f.Fuzz(func(t *testing.T, key, text string, size int) {
		if size < 1 || size > 32 || len(key) > 32 {
			wantSum(t, key, text, size, "", api.ErrArg)
			return
		}
		wantSaid(t, key, text, size)
	})
}

func BenchmarkSum(b *testing.B) {
	text := chance(1, 1<<16)[0]
	b.SetBytes(int64(len(text)))
	for b.Loop() {
		Sum("", text, 32)
	}
}
