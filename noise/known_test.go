package noise

import (
	"crypto/sha256"
	"encoding/hex"
	"testing"

	"souterrain/api"
)

// What is written out here was worked out by other programs than these: CPython's
// hashlib and hmac, and its package cryptography.

// knownStep is a call, what it answers, and what Hash and Split (both keys, one
// behind the other) answer behind it, in base 16.
type knownStep struct{ call, text, answer, hash, split string }

func knownSteps() map[int][]knownStep {
	return map[int][]knownStep{
		api.Blake: {
			{"MixHash", "", "",
				"00b6590ddd2d1f052bc04a4885eedd8a9f2189f3df61b9e94e06aacbac842e71",
				"e690eeb70026094ad509d881da4c679f92ff4179c135e616e1e9fc6e52ba9431cb1781078465914c60c4c0e04bc7ee17eded66d7b0b32c4922039789493f6a8e"},
			{"MixHash", "text", "",
				"8c5a1981b1112b46511e3a78b806321ee16f3a4351502a4bb4c1bc3d86e35d0d",
				"e690eeb70026094ad509d881da4c679f92ff4179c135e616e1e9fc6e52ba9431cb1781078465914c60c4c0e04bc7ee17eded66d7b0b32c4922039789493f6a8e"},
			{"MixKey", "key", "",
				"8c5a1981b1112b46511e3a78b806321ee16f3a4351502a4bb4c1bc3d86e35d0d",
				"4899f50821a9072b4ee9f6363faef65b2eb887d36aa41a72c63ad3985b0ee961fb503326a0e6a815d4ec04f8b972a661bd34d6ac04365744bde7a1990f9dbf57"},
			{"Seal", "hello", "385a7bd852d8f26124bdd5c9c553f41db9db9cee0e",
				"4ad20c3f76a9222c9bddeafccf1400d5d0860c038b3227526a93a465c6fcbf66",
				"4899f50821a9072b4ee9f6363faef65b2eb887d36aa41a72c63ad3985b0ee961fb503326a0e6a815d4ec04f8b972a661bd34d6ac04365744bde7a1990f9dbf57"},
			{"Seal", "", "6ca3fe3c9b15c6257c3a89ad6242d706",
				"d9886a4637eff2131ac3df95325d122c36a3ee30829ed0616fd5c1e3a4aba093",
				"4899f50821a9072b4ee9f6363faef65b2eb887d36aa41a72c63ad3985b0ee961fb503326a0e6a815d4ec04f8b972a661bd34d6ac04365744bde7a1990f9dbf57"},
			{"MixHash", up(100), "",
				"a69355309610342a6aa144b1a2262a6708ab8ef28069ed2d324d227a34337209",
				"4899f50821a9072b4ee9f6363faef65b2eb887d36aa41a72c63ad3985b0ee961fb503326a0e6a815d4ec04f8b972a661bd34d6ac04365744bde7a1990f9dbf57"},
			{"Seal", up(33), "9e6bb356c52848e43da836fb29bca4fd67b86f8a510e9d3dda45a2c11eb1032294451cea4f6928ac9873f6df19ebb17b28",
				"a0c11094b2305d3cfada22750404c51f34850162c979244ea7c1f5cd2f85a25d",
				"4899f50821a9072b4ee9f6363faef65b2eb887d36aa41a72c63ad3985b0ee961fb503326a0e6a815d4ec04f8b972a661bd34d6ac04365744bde7a1990f9dbf57"},
			{"MixBoth", "both", "",
				"2400c1be63aa5b354373e6d0781450f0b26ed24125fb45f0741e06d4d0f3c843",
				"74e634add79cd4d9147c5956da494d41a8f0df00cc4cc673e6af13e19ca1ef5f3c64cf839d81d32c02047ad8752c3ef4a9d0c7f1efd668c2ae99142c5ed25918"},
			{"Seal", "hello", "87aff0e9d0278b305a95c3d588188918fe142d6bab",
				"55687a83b3a32f54387287048b8ceb6a42c3effe46d2094aa05bedf07af15741",
				"74e634add79cd4d9147c5956da494d41a8f0df00cc4cc673e6af13e19ca1ef5f3c64cf839d81d32c02047ad8752c3ef4a9d0c7f1efd668c2ae99142c5ed25918"},
			{"MixKey", "", "",
				"55687a83b3a32f54387287048b8ceb6a42c3effe46d2094aa05bedf07af15741",
				"66921f096c9163837c10b17f726d2b8a25edec8e52130a571c69bb86b2215730b91df95deac12dd9170dc45de447c9620094d95f119878433acb509bf31fc2ca"},
			{"Seal", up(16), "cffad0b01d040618d7e80e4447591b9f7097a5b05bb0b7ec0bcfbf96df772f74",
				"e094b59ee758a1b08e4f90ad9ba137eb9bf2867889f764218a1eb8c2592c2bac",
				"66921f096c9163837c10b17f726d2b8a25edec8e52130a571c69bb86b2215730b91df95deac12dd9170dc45de447c9620094d95f119878433acb509bf31fc2ca"},
			{"Seal", up(16), "02f58adea42f1c4aa7dfb2f5811f142186223600dddce72f75050620e5ba90d5",
				"5978c2e3059c83132bd3b42a33e9e099de240bce1a1673b9bdb899230cd99bfa",
				"66921f096c9163837c10b17f726d2b8a25edec8e52130a571c69bb86b2215730b91df95deac12dd9170dc45de447c9620094d95f119878433acb509bf31fc2ca"},
			{"MixBoth", "", "",
				"8153604ed48ac8039a95ac70564d6f1d3492ea57dfe8c43486f1b0b0a167e253",
				"93d38bf5a56a9180a905412eb135feb8a4fe231707d7a15f369a2bc67c53c04aaf9ec8577840e123d0ff956c8911a17f552ed9eb40dd80ab0c29bf294db8e890"},
			{"MixBoth", up(70), "",
				"b3617d1d33bb2e3e90e0444480025897125195776aeed52218b8c51c90d8eb97",
				"be4fc2f1b68be36b0e7cfdca2c1fff56c6528c10055ce01a9097c62112ed16d58ea8c66cf81b1253f57fab0a167a2ac4dc6df6ef6ea66410dc7ed698cb29299e"},
			{"Seal", "\x00", "f7caab53709f71439713c64bbba48298c3",
				"a31b665ab6fc734455ba1214a24cfa0f01f82eb871e4c2b84fdb528ee9569000",
				"be4fc2f1b68be36b0e7cfdca2c1fff56c6528c10055ce01a9097c62112ed16d58ea8c66cf81b1253f57fab0a167a2ac4dc6df6ef6ea66410dc7ed698cb29299e"},
			{"MixKey", up(32), "",
				"a31b665ab6fc734455ba1214a24cfa0f01f82eb871e4c2b84fdb528ee9569000",
				"b1cae09f3f5cedd2fb31294de612938f8fc8abf06db7dfd02b1f631fbf1c1d783fa8f5b4695fa61295c6161cb4ba01d8035afde593af869c2907518000267ed2"},
			{"MixKey", up(32), "",
				"a31b665ab6fc734455ba1214a24cfa0f01f82eb871e4c2b84fdb528ee9569000",
				"62977e1c1cdc27835c24a345331d0ab59a455e6c4dae5189a06592043c2fc8a511988816105a045b006c07c43209362e94165fc7925cdac076575148a33eba17"},
			{"Seal", up(64), "32d21b9d9db941f2f3c829b5b7338f1e61c3abba22250e8edad880926256952da600ce61902f6ef634993a3abe5eb675e91f2f7b205ce16f67435939568de8f7b60172d855cb42e67298ba2216f63580",
				"335ccbb41e8a6cd2e3690fd05f4777425f4651eafafdaddf7f3cf3748c8fcd3e",
				"62977e1c1cdc27835c24a345331d0ab59a455e6c4dae5189a06592043c2fc8a511988816105a045b006c07c43209362e94165fc7925cdac076575148a33eba17"},
		},
		api.Sha: {
			{"MixHash", "", "",
				"f8719a2b066c84e2dbc1ef4a8fc766c483ea9b1addbc6499ccf9ca9320f6eaa1",
				"b90dea63e4a46ff6b64f3f935b243ca3478fca556b6862bd86bb38f91c313ebde4cb6bac6050ca3300444c8a7866e62e14dd3a946cf6c21c4a0ce3f4a7aa7ea2"},
			{"MixHash", "text", "",
				"66f9db634c453fa5413dd8e20a6b5e15590b0ea3911febf7b77fb2c36f0f8108",
				"b90dea63e4a46ff6b64f3f935b243ca3478fca556b6862bd86bb38f91c313ebde4cb6bac6050ca3300444c8a7866e62e14dd3a946cf6c21c4a0ce3f4a7aa7ea2"},
			{"MixKey", "key", "",
				"66f9db634c453fa5413dd8e20a6b5e15590b0ea3911febf7b77fb2c36f0f8108",
				"95813b76c2297a9e198b5d5cb966cab2d20764fa48388c69135d9c67d691db0ff06ca7dd33055217d980c9ce8ec422cec59c74f46f8d0e6ae1a7fefadb8da57a"},
			{"Seal", "hello", "3867044f3b38016fe89e4eba1ceb03c0d44ca87141",
				"828d9e8f377e3f820691549de332ee9b84b0b3bda306ebc7309ccc6e33dc5176",
				"95813b76c2297a9e198b5d5cb966cab2d20764fa48388c69135d9c67d691db0ff06ca7dd33055217d980c9ce8ec422cec59c74f46f8d0e6ae1a7fefadb8da57a"},
			{"Seal", "", "8c962088e87e161e332a661ce90ad65f",
				"1634c70cf0e548205aa50d56eb342db100577c9960ad47c828c9eae8fc42c1ca",
				"95813b76c2297a9e198b5d5cb966cab2d20764fa48388c69135d9c67d691db0ff06ca7dd33055217d980c9ce8ec422cec59c74f46f8d0e6ae1a7fefadb8da57a"},
			{"MixHash", up(100), "",
				"dc451e054795de173f0ba0a06e4adca084e3a7ffb02e3db7dded18360302aaca",
				"95813b76c2297a9e198b5d5cb966cab2d20764fa48388c69135d9c67d691db0ff06ca7dd33055217d980c9ce8ec422cec59c74f46f8d0e6ae1a7fefadb8da57a"},
			{"Seal", up(33), "adb70116681de82377fb5d40dfc72d60abe9908c39ba434720de5adc5eb5d2ed751983248486346e0465ab6b987ca5ff06",
				"87d6f021c03a6eaf508d29d57be5d86c13de45adb8d52e58e0b4e80667d2dfbb",
				"95813b76c2297a9e198b5d5cb966cab2d20764fa48388c69135d9c67d691db0ff06ca7dd33055217d980c9ce8ec422cec59c74f46f8d0e6ae1a7fefadb8da57a"},
			{"MixBoth", "both", "",
				"2b52222e363dc86d809ca3807e21fa1e817d37ace3670bb18d220c3eff1ed453",
				"c60082d0b370e90360ee9d29e39c64e1a3512365862accea6f96069e5e9ccc5c220eac707ac6320c346b852983dfcbf01ed8209958962149c3ca80cf6e0dc100"},
			{"Seal", "hello", "ca3047208761f34662b49190b00b88aeab3b39e882",
				"70832afa01d5b08b2e274b494498def5feaf8825eedfb4226fb345637ee180c8",
				"c60082d0b370e90360ee9d29e39c64e1a3512365862accea6f96069e5e9ccc5c220eac707ac6320c346b852983dfcbf01ed8209958962149c3ca80cf6e0dc100"},
			{"MixKey", "", "",
				"70832afa01d5b08b2e274b494498def5feaf8825eedfb4226fb345637ee180c8",
				"cecce0f21948e4c3a7d5ea2ec6c9404a800d0c9e79679fb918a53a49804d831596218380e114fe7bbff716177bf27f3d98c912652a43eddb80d8a12c343da097"},
			{"Seal", up(16), "dfe334b47527bcb1e93aff202a1225ff56a9040cc207814857cce4b3a2d184ba",
				"282272331e83b319264208e7c4687cabb9ebe8063640c583ce8eff40249c5f96",
				"cecce0f21948e4c3a7d5ea2ec6c9404a800d0c9e79679fb918a53a49804d831596218380e114fe7bbff716177bf27f3d98c912652a43eddb80d8a12c343da097"},
			{"Seal", up(16), "5c50a0d16c45621b64e5880892f4c83e69d8afc216be215d0b1211d3fd32f7cc",
				"4e641f12746fcaa7a38a620c1aa3ffeb8a84f5cde0c5e8dea80a5726d77d500f",
				"cecce0f21948e4c3a7d5ea2ec6c9404a800d0c9e79679fb918a53a49804d831596218380e114fe7bbff716177bf27f3d98c912652a43eddb80d8a12c343da097"},
			{"MixBoth", "", "",
				"97f9598f8b721a5cd332337ac56d355d4a75fa484b6d6fe7f2f7e422daa5cefb",
				"6fff28e955531f486d57b7bafe3931ce498022d9de32220f017b7a160571240b2f3261ac73b5c0a0035b2e1962a28b44f14e2fa6b827a57aaa51a7c577678f8d"},
			{"MixBoth", up(70), "",
				"a50a23c78d8e59466df8bf8395a52d2874962557752aa1a8e44839b67b671591",
				"338d0a037efd1c3d40fa35aed5496218c3a4995a05b3cc7b33cdd1c0e0bb961e4b0d77b64efb1bb3949f9a6398a65ba497575dc69496315975ae6018c8ae90f5"},
			{"Seal", "\x00", "4b0270208cf2fd45ab02d7dea7ea71d600",
				"1bb0c29457a8fc6436d08900f3bb4f080a3067b5f0635e022bb7061c0c7c3a92",
				"338d0a037efd1c3d40fa35aed5496218c3a4995a05b3cc7b33cdd1c0e0bb961e4b0d77b64efb1bb3949f9a6398a65ba497575dc69496315975ae6018c8ae90f5"},
			{"MixKey", up(32), "",
				"1bb0c29457a8fc6436d08900f3bb4f080a3067b5f0635e022bb7061c0c7c3a92",
				"423325c1d353894abe5caa7fe8f11da80e8b80cf15141ac0d5e81e5b01c4fd58ee6f18ceeba4e2b98d4048cb02b65b9a6ea772eddd761c66adef51d89931871f"},
			{"MixKey", up(32), "",
				"1bb0c29457a8fc6436d08900f3bb4f080a3067b5f0635e022bb7061c0c7c3a92",
				"aafba63009a0b5d2a35bfd3d70dfd12f2b3130b0973379d9147e0f8a1ed17046ed975c6eeb4a37a43cb38b8413cec701a15173ef3588a36260804082355ed438"},
			{"Seal", up(64), "5fd0ba9bfbc7d5ff2ee48bfd5dfe3547dcfb5202ed209cccd9a8eba7a3e99d98db011997b4513757211c0f5a8544fef1dbcd7e8323b5d043d15caf5958dbef636155482619643d234068d5ce9fae71af",
				"476aef4ee2db3a167f426b06fe23b998912182767a561af751ce1bc3deff2bc2",
				"aafba63009a0b5d2a35bfd3d70dfd12f2b3130b0973379d9147e0f8a1ed17046ed975c6eeb4a37a43cb38b8413cec701a15173ef3588a36260804082355ed438"},
		},
	}
}

func wantHex(t *testing.T, what, got, right string) {
	t.Helper()
	if got := hex.EncodeToString([]byte(got)); got != right {
		t.Errorf("%s: %s; want %s", what, got, right)
	}
}

func wantKnown(t *testing.T, s *State, hash, split string) {
	t.Helper()
	wantHex(t, "Hash", s.Hash(), hash)
	one, other := s.Split()
	wantHex(t, "Split", one+other, split)
}

// P25: what is answered behind New.
func TestNewWrittenOut(t *testing.T) {
	for _, c := range []struct {
		suite                      int
		prologue, hash, one, other string
	}{
		{api.Blake, "", "43051b180db661ba01317cdc92ec3bd3500978b7e8a589847bdc499f3d9fa00b", "e690eeb70026094ad509d881da4c679f92ff4179c135e616e1e9fc6e52ba9431", "cb1781078465914c60c4c0e04bc7ee17eded66d7b0b32c4922039789493f6a8e"},
		{api.Blake, "souterrain\x01", "832c22f9d3a1d97767afcb8178c4c29ed6dc2812a00c92469379b5ad005983f7", "e690eeb70026094ad509d881da4c679f92ff4179c135e616e1e9fc6e52ba9431", "cb1781078465914c60c4c0e04bc7ee17eded66d7b0b32c4922039789493f6a8e"},
		{api.Blake, up(300), "712d6c5ec11a896a085e5090ea3a9d8acdfd0a119a59c8fc5dcf13c8873f76fa", "e690eeb70026094ad509d881da4c679f92ff4179c135e616e1e9fc6e52ba9431", "cb1781078465914c60c4c0e04bc7ee17eded66d7b0b32c4922039789493f6a8e"},
		{api.Sha, "", "d5477e14064829c2799bda32e63dfd45b8f09a8471fb589c31055c6a32f32b8d", "b90dea63e4a46ff6b64f3f935b243ca3478fca556b6862bd86bb38f91c313ebd", "e4cb6bac6050ca3300444c8a7866e62e14dd3a946cf6c21c4a0ce3f4a7aa7ea2"},
		{api.Sha, "souterrain\x01", "58d0b7cb1a92d1787762cb4b3c09e9a55ae215e7e5b76257f4d2b1e9d0469537", "b90dea63e4a46ff6b64f3f935b243ca3478fca556b6862bd86bb38f91c313ebd", "e4cb6bac6050ca3300444c8a7866e62e14dd3a946cf6c21c4a0ce3f4a7aa7ea2"},
		{api.Sha, up(300), "494e3163968d80dbdce1d5b3b6844998381919390d797749e6d1435b44489c97", "b90dea63e4a46ff6b64f3f935b243ca3478fca556b6862bd86bb38f91c313ebd", "e4cb6bac6050ca3300444c8a7866e62e14dd3a946cf6c21c4a0ce3f4a7aa7ea2"},
	} {
		wantKnown(t, made(t, c.suite, c.prologue), c.hash, c.one+c.other)
	}
}

// P25 and P26: what each call answers, and leaves; of what one seals, by the other
// one, too.
func TestWrittenOut(t *testing.T) {
	for suite, steps := range knownSteps() {
		s, other := made(t, suite, "prologue"), made(t, suite, "prologue")
		for _, step := range steps {
			switch step.call {
			case "MixHash":
				s.MixHash(step.text)
				other.MixHash(step.text)
			case "MixKey":
				s.MixKey(step.text)
				other.MixKey(step.text)
			case "MixBoth":
				s.MixBoth(step.text)
				other.MixBoth(step.text)
			case "Seal":
				sealed, e := s.Seal(step.text)
				wantHex(t, "Seal", sealed, step.answer)
				if text, err := other.Open(sealed); text != step.text || e != api.OK || err != api.OK {
					t.Errorf("%x was sealed, and opened as %x, %d, %d", step.text, text, e, err)
				}
			}
			wantKnown(t, s, step.hash, step.split)
			wantKnown(t, other, step.hash, step.split)
		}
	}
}

// P26: seven hundred texts, one behind the other.
func TestManyWrittenOut(t *testing.T) {
	for suite, right := range map[int][2]string{
		api.Blake: {"3b312b3cd8830402f26c7f44aa9a2f85eb99ca598755665f2ae687fcd01a08e0", "2f3ccde0fe97adb4ce8fe3b1fffe3855155cf82901218d2fd038e14c0c9fa966"},
		api.Sha:   {"bed159ca08145e4f5cf0e717bfc793fcee86f7d19f35ba45cb05bc96dd472fb3", "00e2a50aaf5e2d0fb0eece096546f94a97e247bce393e51ba0b4598680b54dc1"},
	} {
		s := made(t, suite, "many")
		s.MixKey("key")
		all := sha256.New()
		for i := range 700 {
			sealed, _ := s.Seal(up(i % 50))
			all.Write([]byte(sealed))
		}
		wantHex(t, "Hash", s.Hash(), right[0])
		wantHex(t, "all that was sealed", string(all.Sum(nil)), right[1])
	}
}

// P26: a text of MaxText bytes.
func TestGreatestWrittenOut(t *testing.T) {
	for suite, right := range map[int][2]string{
		api.Blake: {"5d327917a479803c1e6d198445e559037da54a2c6669de717e0471f6b227283c", "e14f95c43670b7c816b7607f945d74cb5ec9a93727035ef3f94582b5efbe7af2"},
		api.Sha:   {"350cc8b658f1485a6a94699189f4d2b11b635ae85af5153f0a9ddcaa113bd2b3", "739356a9379e3f6cba13afec58049ce3c9bcd9d6b81296c5137ca9657a5d7140"},
	} {
		s := made(t, suite, "great")
		s.MixBoth("key")
		sealed, _ := s.Seal(up(mostText))
		sum := sha256.Sum256([]byte(sealed))
		wantHex(t, "Hash", s.Hash(), right[0])
		wantHex(t, "what was sealed", string(sum[:]), right[1])
	}
}

// P26: N as far as eight bytes have it, and that the one behind it is one more:
// nobody seals as many texts.
func TestFarWrittenOut(t *testing.T) {
	for _, c := range []struct {
		suite int
		n     uint64
		right string
	}{
		{api.Blake, 0x0, "245a6fc03bf4bf4edd2f4614cec9fda76b986fa5"},
		{api.Blake, 0x1, "a7494f739cee736ede74eab2d1dbe7c42334cfee"},
		{api.Blake, 0xff, "8ba6bbffad5072a242c68559e2653d6ab5897aa8"},
		{api.Blake, 0x100, "07a1b8f2d3e3662568a6753ca9db6ef110e2d74c"},
		{api.Blake, 0x101, "76139aa8937535fa4f0d4d00cf5b8c54bbd26066"},
		{api.Blake, 0xffff, "f0290ca5fdfcd067dc338302fd1ffca31dd33efd"},
		{api.Blake, 0x10000, "fb2eaa6dbc0299a93194b8c9254a80d21d73f1a8"},
		{api.Blake, 0x1000000, "652ed4c68330c5158f6b669e95362b66ab3a9c8a"},
		{api.Blake, 0xffffffff, "26a87a1c950af771bbf2c712377f26190217bd7a"},
		{api.Blake, 0x100000000, "acea161430e0197f3d0aa09eaf423897cc5d5bd1"},
		{api.Blake, 0x10000000007, "518d8dbd177e60af103a4899b5c315b58c60ea8c"},
		{api.Blake, 0x8000000000000000, "bd62747ee14e38df659a16fc90d8f1ad5c1f2e23"},
		{api.Blake, 0xffffffffffffffff, "1863fd015f0cabd4501c5f24d14ab7a7b3ea0fd6"},
		{api.Blake, 0x102030405060708, "f3b4edb46420c746ae725c7ab8b3be523fde850e"},
		{api.Sha, 0x0, "24671057fe9920b2058f5747b5a3a5aedd415a65"},
		{api.Sha, 0x1, "6f61568e3afa33d23727eaf0d8cfa073d59fa473"},
		{api.Sha, 0xff, "440ec21def42244a887c4297088db00249e9319b"},
		{api.Sha, 0x100, "33f784078fadcb543b417b8fd39464b63674783e"},
		{api.Sha, 0x101, "0e41cc38e72a17493231406a40f39801ef7b2afa"},
		{api.Sha, 0xffff, "e7c2b17eec4f1f6c5e065012c93935e0a45c41c7"},
		{api.Sha, 0x10000, "ec8051c4208bd190df8977af96f1735619bb03f4"},
		{api.Sha, 0x1000000, "b1792d4e53583ad1295298821533f6bd3471cf44"},
		{api.Sha, 0xffffffff, "d507391c301e53635ded097b3d14c3bb26edbae1"},
		{api.Sha, 0x100000000, "ffde261f09ec45a2ce33d3ceab051fd68a854541"},
		{api.Sha, 0x10000000007, "4c4aff0aee654b0548287d84031baf4fa5b61b76"},
		{api.Sha, 0x8000000000000000, "5216a17c90b4527d9b6e99584791ab1576461d06"},
		{api.Sha, 0xffffffffffffffff, "36acab3c428e36745fd9f371945ba7b803feee8c"},
		{api.Sha, 0x102030405060708, "84e564d11bd3ec2a876c7b415a51077e375a4481"},
	} {
		s := made(t, c.suite, "far")
		s.MixKey("key")
		s.n = c.n
		other := *s
		sealed, e := s.Seal("text")
		wantHex(t, "Seal", sealed, c.right)
		if text, err := other.Open(sealed); text != "text" || e != api.OK || err != api.OK {
			t.Errorf("%x was opened as %x, %d, %d", sealed, text, e, err)
		}
		if s.n != c.n+1 || other != *s {
			t.Errorf("behind %x N is %x, and %x", c.n, s.n, other.n)
		}
	}
}
