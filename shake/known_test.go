package shake

import (
	"crypto/sha256"
	"encoding/hex"
	"fmt"
	"strings"
	"testing"

	"souterrain/api"
)

// What is written out here was worked out by another program than these: CPython's
// hashlib and hmac, and its package cryptography.

// known is a meeting, and by each suite, in base 16, the first message, the second
// one, and the key by which who begins sends, and receives.
type known struct {
	own, theirs, psk, once string
	t                      api.Stamp
	best                   int
	index                  uint32
	second                 string // the once of who answers
	theirBest              int
	theirIndex             uint32
	right                  map[int][4]string
}

func (k known) meeting(suite int) *meeting {
	return &meeting{
		begin:  begin{api.Config{Suite: suite, Own: k.own, Peer: pub(k.theirs), Psk: k.psk}, k.once, k.t, k.best, k.index},
		theirs: k.theirs,
		answer: answer{k.psk, k.second, k.theirBest, k.theirIndex},
	}
}

// sames answers a key of 32 times that byte.
func sames(s string) string { return strings.Repeat(s, keyLong) }

// squares answers a key, of whose bytes each is the square of its place, and n.
func squares(n int) string {
	b := make([]byte, keyLong)
	for i := range b {
		b[i] = byte(i*i + n)
	}
	return string(b)
}

// up answers a key, of whose bytes each is one more than the one ahead.
func up(n int) string {
	b := make([]byte, keyLong)
	for i := range b {
		b[i] = byte(n + i)
	}
	return string(b)
}

func knownMeetings() []known {
	return []known{
		{sames("o"), sames("p"), sames("k"), sames("1"), api.Stamp{Sec: 9}, 2, 77, sames("2"), 1, 88, map[int][4]string{
			api.Blake: {
				"01014d00000004f5f29162c31a8defa18e6e742224ee806fc1718a278be859ba5620402b8f3a5973de856b325192702aad593a64b79cfff6cf9310a5c2fcb951eda7626bc4094f398a42ba8dd019c94223a33692cdd6f7cb9611bb7f08c1a629bc84b146a00a474f8743382d1ea8ef07307e98",
				"0201580000004d00000059d9225473451efffe6b36dbcaefdbf7b1895de62084509a7f5b58bf01d064186c33010c1c3c2df1f27e29f7fd08a631d0",
				"45704d2dd8d1808b49b50d0aede73fe6bcad58a46c987f22c89a53866d32ea7f",
				"97c5e2c3d9e511160d5b9daaf967a175b3e359f5b98a966f14c7c9987d6a3eca",
			},
			api.Sha: {
				"01024d00000004f5f29162c31a8defa18e6e742224ee806fc1718a278be859ba5620402b8f3aaf4e9dd50b0bdd55b1a85eeeaa710dc32c63e2f285a5716563cb6e50171a282d063f2890bfa86017d1b70753ebbb9cfe4bc8f4d513114beb7c82a0e2ee2c51c9e09597101ba9aa2c31199066d3",
				"0202580000004d00000059d9225473451efffe6b36dbcaefdbf7b1895de62084509a7f5b58bf01d064182c19403ebdbd8edcf116f8e5dd4dadbcbe",
				"921353034db0212c81a2f4717c63c36e972f08c30a4dcfb475000048533f426e",
				"fb9d28696324c9d5b18e477bca2ed1d0ab9cccef6466c5669415c1e04ce25fdc",
			},
		}},
		{up(0), up(100), up(200), squares(1), api.Stamp{}, 1, 0, squares(2), 2, 1<<32 - 1, map[int][4]string{
			api.Blake: {
				"0101000000009185c7848d1af3fda54b3ea8740e71fd6bdc56e7831f3449b749fc9abef0c80d0cbf1c7e7c2935de3d0f170b7ec2324e39563fd0a5bbe0f650f3137fede82f768ea40f8efe11f74b079f075ac3fbc16c95f469bf777b5e092081ba1493ee914e75dbf9e09707c19265111af745",
				"0201ffffffff0000000011670b5e840e5fb5c1d374260da30ce10b1006be9720cd9035da45589420d141bd703df7ecad56522237576d3d51d56ca4",
				"942c5add149f4d3581a22247b829228f758c084b9308ae92a43772c3d1de5379",
				"59f29dd51f6a08540b1e51022aaf24532099710eb7883e76dc266d2f915ff7f2",
			},
			api.Sha: {
				"0102000000009185c7848d1af3fda54b3ea8740e71fd6bdc56e7831f3449b749fc9abef0c80d846970ca3b8d52ba4c34fe5967f67cff68d3b481988f5a1bd78d30f648deb83894e868af0ba16c5f675bd5214cf901fcadb0ce893f6eba4da4c4297579d5cf229ee347225631cb81fde5d7c849",
				"0202ffffffff0000000011670b5e840e5fb5c1d374260da30ce10b1006be9720cd9035da45589420d1414b7133409d61d2555f4c636868ff3073e8",
				"cc63cd3a78eef1e5173e231d01c26399becf028b0180dd99ebca0e4bc475eaeb",
				"04a10348cc903905286b7943b8e31249b0c5c19b5262dcd2bf31aeb9219d0598",
			},
		}},
		{sames("\xff"), sames("\x00"), sames("\x00"), sames("\xff"), api.Stamp{Sec: 1 << 40, Nano: 999999999}, 2, 1<<32 - 1, sames("\x00"), 1, 0, map[int][4]string{
			api.Blake: {
				"0101ffffffff847c0d2c375234f365e660955187a3735a0f7613d1609d3a6a4d8c53aeaa5a2206eba4cface74fd5d1bdb2a485060d112b001efebfe36c5cc489b070d43b910c557c7ebb140344480f90bd8861d20138a89751a6fb7d3ec5f365a051360eab848f6d96324e479f769641c3dbaa",
				"020100000000ffffffff2fe57da347cd62431528daac5fbb290730fff684afc4cfc2ed90995f58cb3b74d34851837bc88ca240e1db2b42c4916234",
				"d60509f226a38f75c858b212cd0e38c8121f01345e459437d1b93cb7052c05db",
				"bfc45db3ce93dc6bf22da40e701d510e00ac8e2be987e92349660cf86b858f8e",
			},
			api.Sha: {
				"0102ffffffff847c0d2c375234f365e660955187a3735a0f7613d1609d3a6a4d8c53aeaa5a22433137f2d454c055fed802d724fe65d2a4e1eb0af006534f1bd7e317d57502ac3dcc1897bdf8200f8ed960c83ff5eac6e372df75840d5f4881b0bd815704469376e0fa19d51e8aafcd07c16174",
				"020200000000ffffffff2fe57da347cd62431528daac5fbb290730fff684afc4cfc2ed90995f58cb3b74a4106f36a3995cbfc3d9e68ed3001b41aa",
				"306b2d889212fd0abb39229028327b262bdf6aa061088382e455a00128d3c59f",
				"9c64919cad61b0ad7d1cc8be2d0220e7da71fbe3d08f73fc3783d39ee2d4f0e7",
			},
		}},
		{squares(7), squares(7), squares(8), squares(7), api.Stamp{Sec: 258, Nano: 7}, 1, 1, squares(7), 1, 256, map[int][4]string{
			api.Blake: {
				"01010100000055548edf71edef13570c3563ca730528a37ea013142378d5452da11be983702419f131143bf8b0b2366569d255c7cae659518a4914434249c21abab46553570f36da310d7dc4974dc2ebe2dc14280073e6a106fa88d6392807623a4657e9d3cceb5a25a2895b6a8b4a09148c47",
				"0201000100000100000055548edf71edef13570c3563ca730528a37ea013142378d5452da11be9837024527a8276e699b62ad710fda6539d484109",
				"c167645e7d01e27695420e4c6b487eb530a8f030a8626fae8721d0d3fd084ee6",
				"70e09799c87622b5ea9802b721a6238dda0ec7fe010cdf3896b8f12309114117",
			},
			api.Sha: {
				"01020100000055548edf71edef13570c3563ca730528a37ea013142378d5452da11be9837024b39f9061e277147329c82b7a91bdd32a1860f3f4b74c01e0db20a224e0360b919ba79124bcb6854ad31924fa3ce642dbc1b6af5a51bdbd5d0213b75356f585696c79f9798e868195dab3283216",
				"0202000100000100000055548edf71edef13570c3563ca730528a37ea013142378d5452da11be9837024120fcaeae25aabdbaaa3eca1426de1e618",
				"0242f06657c1f2343711bf42a6207368aaeb463f538c5132257c44c5d0df3aee",
				"491f4d97023b9f87a1bcf520771e83d489f5b02d6eec19c1e0b496928e619acb",
			},
		}},
		{sames("\x00"), sames("\x00"), sames("\xff"), sames("\x00"), api.Stamp{Sec: 1, Nano: 1}, 2, 0x04030201, sames("\xff"), 2, 0xfffefdfc, map[int][4]string{
			api.Blake: {
				"0101010203042fe57da347cd62431528daac5fbb290730fff684afc4cfc2ed90995f58cb3b744c3089f9617890f87cd5cae2f0d96711e28078d6efd71d2073d9457ec3f2df7eb0b4c645300df81a665bbbdce1d7d8a4734385d178bd13a2adfde6b2138a33932368d5f43d3cde2e02c6e1dcf2",
				"0201fcfdfeff01020304847c0d2c375234f365e660955187a3735a0f7613d1609d3a6a4d8c53aeaa5a22fe3ccaac3a6aa6367caec52d36586f74d7",
				"80204f6adefe75214da72e1845d52a9cb9a45038d947b665cee286b9b9d4d93b",
				"268fc772dd2f2f2d55d06086300c341e797273d507bf6c11ad93a72a2f70ca7c",
			},
			api.Sha: {
				"0102010203042fe57da347cd62431528daac5fbb290730fff684afc4cfc2ed90995f58cb3b7464de0aceaa199d5da80541c6b01db63576e8dc8a30d871841cb1d31ac02b35c4e929c02355cd554d886e84329e895c9fc71f649100d0837e02a38f2c4ae8a7cba52cc5350d341c5f5d4b475fe9",
				"0202fcfdfeff01020304847c0d2c375234f365e660955187a3735a0f7613d1609d3a6a4d8c53aeaa5a221fd4c3ef455d938ac2a08b097c5fa5bce9",
				"20f39cad1df4227c6d0deaf9e60da2547c26756df87605bff8657dcb479bb119",
				"13207c7dc0db13def96d2f8400908aa63e9a9b940e514e987221c3c4686c8550",
			},
		}},
	}
}

func wantHex(t *testing.T, what, got, right string) {
	t.Helper()
	if got := hex.EncodeToString([]byte(got)); got != right {
		t.Errorf("%s: %s; want %s", what, got, right)
	}
}

// P27 to P30: what each call answers.
func TestWrittenOut(t *testing.T) {
	for i, k := range knownMeetings() {
		for suite, right := range k.right {
			m := k.meeting(suite)
			m.meet(t)
			wantHex(t, fmt.Sprint("first ", i), m.first, right[0])
			wantHex(t, fmt.Sprint("second ", i), m.second, right[1])
			wantKeys(t, m, right[2], right[3])
		}
	}
}

// wantKeys holds the keys of both, by the messages of m.
func wantKeys(t *testing.T, m *meeting, one, other string) {
	t.Helper()
	_, b, _ := Begin(m.begin.c, m.begin.once, m.begin.t, m.begin.best, m.begin.index)
	keys, best, index, e := b.Finish(m.second)
	wantHex(t, "who begins: Send", keys.Send, one)
	wantHex(t, "who begins: Recv", keys.Recv, other)
	if best != m.answer.best || index != m.answer.index || e != api.OK {
		t.Errorf("Finish: %d, %d, %d", best, index, e)
	}
	_, h, _ := Hear(m.theirs, m.first)
	_, keys, e = h.Answer(m.answer.psk, m.answer.once, m.answer.best, m.answer.index)
	wantHex(t, "who answers: Recv", keys.Recv, one)
	wantHex(t, "who answers: Send", keys.Send, other)
	if e != api.OK {
		t.Errorf("Answer: %d", e)
	}
}

// P27 to P30: sixty meetings by each suite, one digest of all that was answered.
func TestManyWrittenOut(t *testing.T) {
	for suite, right := range map[int]string{
		api.Blake: "631f6a148010f6efdf565126f0486faeebf4f5aa486d26b9fe10ee56fd3ac1c8",
		api.Sha:   "f62e90023ee7c45109e10552a9e89843a9a001aad206f4c6721fa489b529a25b",
	} {
		all := sha256.New()
		for i := range 60 {
			c, theirs, once, second := drawn(suite, i)
			first, b, _ := Begin(c, once, api.Stamp{Sec: i * 12345678901 % (1<<40 + 1), Nano: i * 98765432 % 1000000000}, 1+i%2, uint32(i)*0x9e3779b9)
			_, h, _ := Hear(theirs, first)
			message, keys, _ := h.Answer(c.Psk, second, 1+i/2%2, uint32(i+1)*0x85ebca6b)
			all.Write([]byte(first + message + keys.Recv + keys.Send))
			if got, best, index, e := b.Finish(message); got != (api.Keys{Send: keys.Recv, Recv: keys.Send}) || best != 1+i/2%2 || index != uint32(i+1)*0x85ebca6b || e != api.OK {
				t.Errorf("meeting %d: %x, %d, %d, %d", i, got, best, index, e)
			}
		}
		wantHex(t, "all", string(all.Sum(nil)), right)
	}
}

// drawn answers keys that differ from each other: whose the first message is, the
// private key of who answers, and the once of both.
func drawn(suite, n int) (c api.Config, theirs, once, second string) {
	key := func(name string) string {
		sum := sha256.Sum256([]byte(fmt.Sprint(name, " ", n)))
		return string(sum[:])
	}
	theirs = key("theirs")
	return api.Config{Suite: suite, Own: key("own"), Peer: pub(theirs), Psk: key("psk")}, theirs, key("once"), key("second once")
}
