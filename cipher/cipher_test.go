package cipher_test

import (
	"crypto/sha256"
	"encoding/hex"
	"math"
	"math/big"
	"math/rand"
	"strings"
	"sync"
	"testing"

	"custody/api"
	"custody/cipher"
)

// quarters are the words of the quarter rounds of a double round, in the order of P3.2.
var quarters = [][4]int{
	{0, 4, 8, 12}, {1, 5, 9, 13}, {2, 6, 10, 14}, {3, 7, 11, 15},
	{0, 5, 10, 15}, {1, 6, 11, 12}, {2, 7, 8, 13}, {3, 4, 9, 14},
}

// sunscreen is the text that RFC 8439 encrypts.
const sunscreen = "Ladies and Gentlemen of the class of '99: If I could offer you only one tip for the future, sunscreen would be it."

// random returns a source of the same numbers in each run.
func random(seed int64) *rand.Rand { return rand.New(rand.NewSource(seed)) }

// text returns a text of n bytes in which no two blocks are the same.
func text(n int) string {
	b := make([]byte, n)
	random(int64(n)).Read(b)
	return string(b)
}

// count returns n bytes, the first of which is first, each greater than the one before it.
func count(first byte, n int) string {
	b := make([]byte, n)
	for i := range b {
		b[i] = first + byte(i)
	}
	return string(b)
}

// zeros returns n bytes that are 0.
func zeros(n int) string { return strings.Repeat("\x00", n) }

// raw returns the bytes of a hexadecimal text.
func raw(t *testing.T, s string) string {
	t.Helper()
	b, err := hex.DecodeString(strings.ReplaceAll(s, " ", ""))
	if err != nil {
		t.Fatal(err)
	}
	return string(b)
}

// words returns the bytes of a text as words, the least significant byte first.
func words(s string) []uint32 {
	var l []uint32
	for ; s != ""; s = s[4:] {
		l = append(l, uint32(s[0])+256*(uint32(s[1])+256*(uint32(s[2])+256*uint32(s[3]))))
	}
	return l
}

// state is P3.1, for arguments of the right lengths.
func state(key string, counter uint32, nonce string) [16]uint32 {
	return [16]uint32(words("expand 32-byte k" + key + string([]byte{byte(counter), byte(counter >> 8), byte(counter >> 16), byte(counter >> 24)}) + nonce))
}

// turn is rotl of the chapter.
func turn(x uint32, n int) uint32 { return x<<n | x>>(32-n) }

// rounds is P3.2.
func rounds(s [16]uint32) [16]uint32 {
	add := func(to, from int) { s[to] += s[from] }
	mix := func(to, from, n int) { s[to] = turn(s[to]^s[from], n) }
	for n := 10; n > 0; n-- {
		for _, q := range quarters {
			a, b, c, d := q[0], q[1], q[2], q[3]
			add(a, b)
			mix(d, a, 16)
			add(c, d)
			mix(b, c, 12)
			add(a, b)
			mix(d, a, 8)
			add(c, d)
			mix(b, c, 7)
		}
	}
	return s
}

// unrounds undoes P3.2, step by step from the last one to the first one.
func unrounds(s [16]uint32) [16]uint32 {
	sub := func(from, what int) { s[from] -= s[what] }
	unmix := func(to, from, n int) { s[to] = turn(s[to], 32-n) ^ s[from] }
	for n := 10; n > 0; n-- {
		for i := len(quarters) - 1; i >= 0; i-- {
			a, b, c, d := quarters[i][0], quarters[i][1], quarters[i][2], quarters[i][3]
			unmix(b, c, 7)
			sub(c, d)
			unmix(d, a, 8)
			sub(a, b)
			unmix(b, c, 12)
			sub(c, d)
			unmix(d, a, 16)
			sub(a, b)
		}
	}
	return s
}

// block is P3.3, for arguments of the right lengths.
func block(key string, counter uint32, nonce string) string {
	s := state(key, counter, nonce)
	var b []byte
	for i, w := range rounds(s) {
		sum := w + s[i]
		b = append(b, byte(sum%256), byte(sum/256%256), byte(sum/65536%256), byte(sum/16777216))
	}
	return string(b)
}

// xor is P3.4, for arguments of the right lengths.
func xor(key string, counter uint32, nonce, s string) string {
	out := make([]byte, 0, len(s))
	var b string
	for i := range len(s) {
		if i%64 == 0 {
			at := new(big.Int).Add(big.NewInt(int64(counter)), big.NewInt(int64(i/64)))
			b = block(key, uint32(at.Mod(at, big.NewInt(1<<32)).Uint64()), nonce)
		}
		out = append(out, s[i]^b[i%64])
	}
	return string(out)
}

// isXor checks Xor against P3.4.
func isXor(t *testing.T, key string, counter uint32, nonce, s string) string {
	t.Helper()
	got, e := cipher.Xor(key, counter, nonce, s)
	if e != api.OK || got != xor(key, counter, nonce, s) {
		t.Fatalf("P3.4: Xor(%x, %d, %x, .. %d bytes) is %x, %d", key, counter, nonce, len(s), got[:min(len(got), 200)], e)
	}
	return got
}

// isHex checks a result without an error against what a document says it is.
func isHex(t *testing.T, promise, name, got string, e api.Errno, want string) {
	t.Helper()
	if h := hex.EncodeToString([]byte(got)); e != api.OK || h != strings.ReplaceAll(want, " ", "") {
		t.Errorf("%s: %s is %s, error %d, not %s", promise, name, h, e, want)
	}
}

// lengths returns the lengths around which a block ends, and a few large ones.
func lengths() []int {
	l := []int{0, 1, 2, 3, 4, 5, 15, 16, 17, 31, 32, 33, 1000, 4000, 8000, 65535, 65536, 65537}
	for n := 1; n < 8; n++ {
		l = append(l, 64*n-1, 64*n, 64*n+1)
	}
	return l
}

// counters returns the counters around which their bytes change, and a few more.
func counters() []uint32 {
	l := []uint32{math.MaxUint32 - 3, math.MaxUint32 - 2, math.MaxUint32 - 1, math.MaxUint32, 0x01020304, 0xdeadbeef}
	for _, n := range []uint32{0, 1 << 8, 1 << 16, 1 << 24, 1 << 31} {
		l = append(l, n-2, n-1, n, n+1, n+2)
	}
	return l
}

// TestStateKnown checks the state of RFC 8439, section 2.3.2, and the one whose key and nonce are zero.
func TestStateKnown(t *testing.T) {
	got, e := cipher.State(count(0, 32), 1, raw(t, "000000090000004a00000000"))
	want := [16]uint32{
		0x61707865, 0x3320646e, 0x79622d32, 0x6b206574,
		0x03020100, 0x07060504, 0x0b0a0908, 0x0f0e0d0c,
		0x13121110, 0x17161514, 0x1b1a1918, 0x1f1e1d1c,
		0x00000001, 0x09000000, 0x4a000000, 0x00000000,
	}
	if e != api.OK || got != want {
		t.Errorf("P3.1: the state of the RFC is %x, error %d", got, e)
	}
	got, e = cipher.State(zeros(32), 0, zeros(12))
	if e != api.OK || got != [16]uint32{0x61707865, 0x3320646e, 0x79622d32, 0x6b206574} {
		t.Errorf("P3.1: the state of zeros is %x, error %d", got, e)
	}
}

// TestState checks where each byte of the key and of the nonce, and the counter, go.
func TestState(t *testing.T) {
	check := func(key string, counter uint32, nonce string) {
		t.Helper()
		if got, e := cipher.State(key, counter, nonce); e != api.OK || got != state(key, counter, nonce) {
			t.Fatalf("P3.1: State(%x, %d, %x) is %x, error %d", key, counter, nonce, got, e)
		}
	}
	for i := range 32 {
		for _, c := range []string{"\x01", "\x80", "\xff"} {
			check(zeros(i)+c+zeros(31-i), 0, zeros(12))
		}
	}
	for i := range 12 {
		for _, c := range []string{"\x01", "\x80", "\xff"} {
			check(zeros(32), 0, zeros(i)+c+zeros(11-i))
		}
	}
	for _, n := range counters() {
		check(zeros(32), n, zeros(12))
		check(count(7, 32), n, count(200, 12))
	}
	r := random(1)
	for range 1000 {
		check(text(r.Intn(100000) + 32)[:32], r.Uint32(), text(r.Intn(100000) + 12)[:12])
	}
}

// TestLengths checks that keys and nonces of other lengths are refused by all functions, also with an empty text, and that nothing else is returned.
func TestLengths(t *testing.T) {
	sizes := []int{0, 1, 2, 8, 16, 24, 44, 63, 64, 65, 128, 256 + 12, 256 + 32, 1000, 65536 + 12, 65536 + 32}
	for n := 10; n <= 34; n++ {
		sizes = append(sizes, n)
	}
	for _, k := range sizes {
		for _, n := range sizes {
			want := api.ErrArg
			if k == 32 && n == 12 {
				want = api.OK
			}
			key, nonce := text(k), text(n)
			s, e := cipher.State(key, 5, nonce)
			if e != want || e != api.OK && s != [16]uint32{} {
				t.Errorf("P3.1: State with %d and %d bytes is %x, error %d", k, n, s, e)
			}
			b, e := cipher.Block(key, 5, nonce)
			if e != want || e != api.OK && b != "" {
				t.Errorf("P3.3: Block with %d and %d bytes is %x, error %d", k, n, b, e)
			}
			for _, length := range []int{0, 1, 64, 65, 1000} {
				x, e := cipher.Xor(key, 5, nonce, text(length))
				if e != want || e != api.OK && x != "" {
					t.Errorf("P3.4: Xor of %d bytes with %d and %d bytes is %x, error %d", length, k, n, x, e)
				}
			}
		}
	}
	if _, e := cipher.Block("short", 1, zeros(12)); e != api.ErrArg {
		t.Errorf("P3.3: Block with a short key has the error %d", e)
	}
}

// TestRoundsKnown checks the rounds of RFC 8439, section 2.3.2.
func TestRoundsKnown(t *testing.T) {
	got := cipher.Rounds(state(count(0, 32), 1, raw(t, "000000090000004a00000000")))
	want := [16]uint32{
		0x837778ab, 0xe238d763, 0xa67ae21e, 0x5950bb2f,
		0xc4f2d0c7, 0xfc62bb2f, 0x8fa018fc, 0x3f5ec7b7,
		0x335271c2, 0xf29489f3, 0xeabda8fc, 0x82e46ebd,
		0xd19c12b4, 0xb04e16de, 0x9e83d0cb, 0x4e3c50a2,
	}
	if got != want {
		t.Errorf("P3.2: the rounds of the RFC end with %x", got)
	}
	if got := cipher.Rounds([16]uint32{}); got != [16]uint32{} {
		t.Errorf("P3.2: the rounds turn zeros into %x", got)
	}
}

// states returns states in which single bits are set, all are set, or which are random.
func states() [][16]uint32 {
	var all [16]uint32
	var l [][16]uint32
	r := random(2)
	for i := range all {
		all[i] = math.MaxUint32
		for bit := range 32 {
			var one, s [16]uint32
			one[i] = 1 << bit
			for j := range s {
				s[j] = r.Uint32()
			}
			l = append(l, one, s)
		}
	}
	return append(l, all)
}

// TestRounds compares the rounds with P3.2, and undoes them (P3.5).
func TestRounds(t *testing.T) {
	seen := map[[16]uint32]bool{}
	for _, s := range states() {
		before := s
		got := cipher.Rounds(s)
		if got != rounds(s) {
			t.Fatalf("P3.2: Rounds(%x) is %x", s, got)
		}
		if s != before {
			t.Fatalf("P3.2: Rounds changes its argument %x to %x", before, s)
		}
		if unrounds(got) != s || cipher.Rounds(unrounds(s)) != s {
			t.Fatalf("P3.5: Rounds(%x) is not inverted", s)
		}
		if seen[got] {
			t.Fatalf("P3.5: Rounds(%x) is the result for another state", s)
		}
		seen[got] = true
	}
}

// TestBlockKnown checks the example of the chapter, blocks of RFC 8439 (appendix A.1), and blocks of another implementation for large counters.
func TestBlockKnown(t *testing.T) {
	key, nonce := make([]byte, 32), make([]byte, 12)
	for i := range key {
		key[i] = byte(7*i + 129)
	}
	for i := range nonce {
		nonce[i] = byte(37*i + 200)
	}
	for _, x := range []struct {
		key     string
		counter uint32
		nonce   string
		want    string
	}{
		{count(0, 32), 1, raw(t, "000000090000004a00000000"), "10 f1 e7 e4 d1 3b 59 15 50 0f dd 1f a3 20 71 c4 c7 d1 f4 c7 33 c0 68 03 04 22 aa 9a c3 d4 6c 4e d2 82 64 46 07 9f aa 09 14 c2 d7 05 d9 8b 02 a2 b5 12 9c d1 de 16 4e b9 cb d0 83 e8 a2 50 3c 4e"},
		{zeros(32), 0, zeros(12), "76b8e0ada0f13d90405d6ae55386bd28bdd219b8a08ded1aa836efcc8b770dc7da41597c5157488d7724e03fb8d84a376a43b8f41518a11cc387b669b2ee6586"},
		{zeros(32), 1, zeros(12), "9f07e7be5551387a98ba977c732d080dcb0f29a048e3656912c6533e32ee7aed29b721769ce64e43d57133b074d839d531ed1f28510afb45ace10a1f4b794d6f"},
		{zeros(31) + "\x01", 1, zeros(12), "3aeb5224ecf849929b9d828db1ced4dd832025e8018b8160b82284f3c949aa5a8eca00bbb4a73bdad192b5c42f73f2fd4e273644c8b36125a64addeb006c13a0"},
		{"\x00\xff" + zeros(30), 2, zeros(12), "72d54dfbf12ec44b362692df94137f328fea8da73990265ec1bbbea1ae9af0ca13b25aa26cb4a648cb9b9d1be65b2c0924a66c54d545ec1b7374f4872e99f096"},
		{zeros(32), 0, zeros(11) + "\x02", "c2c64d378cd536374ae204b9ef933fcd1a8b2288b3dfa49672ab765b54ee27c78a970e0e955c14f3a88e741b97c286f75f8fc299e8148362fa198a39531bed6d"},
		{string(key), 0x80000000, string(nonce), "ad0662af782f3096e8ac33c76754fc130c868744a5d5199fa7e135f9be4796b11de6f2178ff761b0a70bd16a1c4685fb94e295fdb3d5d711d4620357ccb53b88"},
		{string(key), 0xdeadbeef, string(nonce), "ce7c6d761354e21d4d9fc6da37d2d7b9a15a65e6c18ee79d5edf5e63402fdadc4077a1eb661921689d2ceaa0d63dc8bacee8916ee092ae4da7d0fa0d8e0d03ca"},
		{string(key), 0xfffffff0, string(nonce), "4ebf99df4bf5d4bec4448e23e6ccb86e67d6593f7e7ee5081388ba7c3f62cc0872a1e18d88c0780a4efd1379c1b410abc345b3f711a8fd8b9a725b1c20133e41"},
		{string(key), 0xffffffff, string(nonce), "bb507802d82606919f4d3e1c923111c820e57ddca95bf8dd81b6aea32652bad670cae805d61d92e3c5a940ee0e88642f30b996bce76118769d53eff711ed1803"},
	} {
		got, e := cipher.Block(x.key, x.counter, x.nonce)
		isHex(t, "P3.3", "a block", got, e, x.want)
	}
}

// TestBlock compares blocks with P3.3, for all sorts of counters.
func TestBlock(t *testing.T) {
	check := func(key string, counter uint32, nonce string) {
		t.Helper()
		if got, e := cipher.Block(key, counter, nonce); e != api.OK || got != block(key, counter, nonce) {
			t.Fatalf("P3.3: Block(%x, %d, %x) is %x, error %d", key, counter, nonce, got, e)
		}
	}
	for _, n := range counters() {
		check(zeros(32), n, zeros(12))
		check(strings.Repeat("\xff", 32), n, strings.Repeat("\xff", 12))
		check(text(32), n, text(12))
	}
	r := random(3)
	for range 1000 {
		check(text(r.Intn(100000) + 32)[:32], r.Uint32(), text(r.Intn(100000) + 12)[:12])
	}
}

// TestXorKnown checks the example of the chapter, the text of RFC 8439 (section 2.4.2), and a long text of another implementation.
func TestXorKnown(t *testing.T) {
	got, e := cipher.Xor(count(0, 32), 1, raw(t, "000000090000004a00000000"), "\x00\x00")
	isHex(t, "P3.4", "the example", got, e, "10 f1")
	got, e = cipher.Xor(count(0, 32), 1, raw(t, "000000000000004a00000000"), sunscreen)
	isHex(t, "P3.4", "the text of the RFC", got, e, "6e2e359a2568f98041ba0728dd0d6981e97e7aec1d4360c20a27afccfd9fae0bf91b65c5524733ab8f593dabcd62b3571639d624e65152ab8f530c359f0861d807ca0dbf500d6a6156a38e088a22b65e52bc514d16ccf806818ce91ab77937365af90bbf74a35be6b40b8eedf2785e42874d")
	key, nonce, long := make([]byte, 32), make([]byte, 12), make([]byte, 100000)
	for i := range key {
		key[i] = byte(7*i + 129)
	}
	for i := range nonce {
		nonce[i] = byte(37*i + 200)
	}
	for i := range long {
		long[i] = byte((i*i + 3*i) % 251)
	}
	got, e = cipher.Xor(string(key), 0x01020304, string(nonce), string(long))
	sum := sha256.Sum256([]byte(got))
	isHex(t, "P3.4", "the hash of a long text", string(sum[:]), e, "a7d917d94bc17538ee1c58fd626ce38519414183858e15ab3d938efc2fe5ceb6")
}

// TestXor compares encrypted texts with P3.4, and decrypts them (P3.5).
func TestXor(t *testing.T) {
	key, nonce := text(32), text(12)
	l := lengths()
	for n := range 200 {
		l = append(l, n)
	}
	for _, n := range l {
		for _, counter := range []uint32{0, 1, 0x80000000, math.MaxUint32 - 1, math.MaxUint32} {
			for _, s := range []string{text(n), zeros(n), strings.Repeat("\xff", n)} {
				got := isXor(t, key, counter, nonce, s)
				if back, e := cipher.Xor(key, counter, nonce, got); e != api.OK || back != s {
					t.Fatalf("P3.5: a text of %d bytes is not restored with the counter %d", n, counter)
				}
			}
		}
	}
}

// TestXorEmpty checks that an empty text stays empty.
func TestXorEmpty(t *testing.T) {
	for _, counter := range counters() {
		if got, e := cipher.Xor(text(32), counter, text(12), ""); got != "" || e != api.OK {
			t.Errorf("P3.4: Xor of no bytes is %x, error %d", got, e)
		}
	}
}

// TestXorWraps checks that the counter after 2^32 - 1 is 0, and that the nonce stays as it is.
func TestXorWraps(t *testing.T) {
	key, nonce := text(32), strings.Repeat("\xff", 12)
	for back := range uint32(6) {
		for _, n := range []int{64, 65, 128, 300, 64 * 6, 1000} {
			isXor(t, key, -back, nonce, text(n))
		}
		got := isXor(t, key, -back, nonce, zeros(64*8))
		for i := range uint32(8) {
			if b, e := cipher.Block(key, i-back, nonce); e != api.OK || got[64*i:64*i+64] != b {
				t.Errorf("P3.4: block %d from the counter 2^32 - %d on is not the one of the counter %d", i, back, i-back)
			}
		}
	}
}

// TestXorParts checks that a text encrypted in two parts, the first of which ends where a block ends, is the text encrypted at once.
func TestXorParts(t *testing.T) {
	key, nonce := text(32), text(12)
	for _, n := range lengths() {
		if n > 10000 {
			continue
		}
		s := text(n)
		for _, counter := range counters() {
			whole, e := cipher.Xor(key, counter, nonce, s)
			if e != api.OK {
				t.Fatalf("P3.4: error %d", e)
			}
			for blocks := 0; 64*blocks <= n; blocks += 1 + n/1000 {
				first, e := cipher.Xor(key, counter, nonce, s[:64*blocks])
				rest, f := cipher.Xor(key, counter+uint32(blocks), nonce, s[64*blocks:])
				if e != api.OK || f != api.OK || first+rest != whole {
					t.Fatalf("P3.5: %d bytes with the counter %d, parted after %d blocks, are encrypted otherwise", n, counter, blocks)
				}
			}
		}
	}
}

// TestXorPrefix checks that the result for each prefix of a text is a prefix of the result.
func TestXorPrefix(t *testing.T) {
	key, nonce, s := text(32), text(12), text(400)
	for _, counter := range []uint32{0, 7, math.MaxUint32 - 2} {
		whole := isXor(t, key, counter, nonce, s)
		for n := range len(s) + 1 {
			if got, e := cipher.Xor(key, counter, nonce, s[:n]); e != api.OK || got != whole[:n] {
				t.Fatalf("P3.5: the result for %d bytes is not a prefix, error %d", n, e)
			}
		}
	}
}

// TestXorBits checks that a changed bit of a text changes this bit of the result and no other one.
func TestXorBits(t *testing.T) {
	key, nonce, s := text(32), text(12), text(130)
	whole := isXor(t, key, 3, nonce, s)
	for i := range len(s) {
		b, want := []byte(s), []byte(whole)
		b[i] ^= 1 << (i % 8)
		want[i] ^= 1 << (i % 8)
		if got, e := cipher.Xor(key, 3, nonce, string(b)); e != api.OK || got != string(want) {
			t.Fatalf("P3.4: a change of byte %d changes more than that, error %d", i, e)
		}
	}
}

// TestXorDiffers checks that every bit of the key, of the nonce and of the counter counts.
func TestXorDiffers(t *testing.T) {
	seen := map[string]bool{}
	check := func(key string, counter uint32, nonce string) {
		t.Helper()
		got := isXor(t, key, counter, nonce, zeros(64))
		if seen[got] {
			t.Fatalf("P3.4: Xor(%x, %d, %x, zeros) is the result for other arguments", key, counter, nonce)
		}
		seen[got] = true
	}
	key, nonce := text(32), text(12)
	check(key, 0, nonce)
	for bit := range 32 * 8 {
		b := []byte(key)
		b[bit/8] ^= 1 << (bit % 8)
		check(string(b), 0, nonce)
	}
	for bit := range 12 * 8 {
		b := []byte(nonce)
		b[bit/8] ^= 1 << (bit % 8)
		check(key, 0, string(b))
	}
	for bit := range 32 {
		check(key, 1<<bit, nonce)
	}
}

// TestArguments checks that arguments are not changed.
func TestArguments(t *testing.T) {
	for _, n := range lengths() {
		key, nonce, s := text(32), text(12), text(n)
		cloned := []string{strings.Clone(key), strings.Clone(nonce), strings.Clone(s)}
		if _, e := cipher.State(key, 1, nonce); e != api.OK {
			t.Fatal("P3.1:", e)
		}
		if _, e := cipher.Block(key, 1, nonce); e != api.OK {
			t.Fatal("P3.3:", e)
		}
		first, e := cipher.Xor(key, 1, nonce, s)
		if e != api.OK {
			t.Fatal("P3.4:", e)
		}
		if key != cloned[0] || nonce != cloned[1] || s != cloned[2] {
			t.Fatalf("P3.4: the arguments for %d bytes are changed", n)
		}
		before := strings.Clone(first)
		if second, e := cipher.Xor(key, 1, nonce, first); e != api.OK || second != s || first != before {
			t.Fatalf("P3.4: a result of %d bytes is changed by a later call, error %d", n, e)
		}
	}
}

// TestResults checks that changing a result does not change later ones.
func TestResults(t *testing.T) {
	key, nonce := text(32), text(12)
	s, _ := cipher.State(key, 9, nonce)
	r := cipher.Rounds(s)
	clear(s[:])
	clear(r[:])
	if again, e := cipher.State(key, 9, nonce); e != api.OK || again != state(key, 9, nonce) {
		t.Error("P3.1: the state changes when an earlier result is changed")
	}
	if cipher.Rounds(state(key, 9, nonce)) != rounds(state(key, 9, nonce)) {
		t.Error("P3.2: the rounds change when an earlier result is changed")
	}
}

// TestNoState checks that calls do not disturb each other.
func TestNoState(t *testing.T) {
	var all sync.WaitGroup
	for i := range 8 {
		all.Go(func() {
			key, nonce, s, counter := count(byte(i), 32), count(byte(9*i), 12), text(50*i), uint32(i)-3
			want := xor(key, counter, nonce, s)
			for range 200 {
				if got, e := cipher.Xor(key, counter, nonce, s); e != api.OK || got != want {
					t.Error("P3.4: results change while other texts are encrypted")
				}
			}
		})
	}
	all.Wait()
}

// FuzzCipher finds panics, and results that differ from the promises (P1, P3.1 to P3.5).
func FuzzCipher(f *testing.F) {
	f.Add("", uint32(0), "", "")
	f.Add(count(0, 32), uint32(1), count(0, 12), sunscreen)
	f.Add(text(32), uint32(math.MaxUint32), text(12), text(130))
	f.Add(text(33), uint32(1<<31), text(12), "")
	f.Fuzz(func(t *testing.T, key string, counter uint32, nonce, s string) {
		st, e := cipher.State(key, counter, nonce)
		b, f := cipher.Block(key, counter, nonce)
		x, g := cipher.Xor(key, counter, nonce, s)
		if len(key) != 32 || len(nonce) != 12 {
			if e != api.ErrArg || f != api.ErrArg || g != api.ErrArg || st != [16]uint32{} || b != "" || x != "" {
				t.Fatalf("P3.1: keys of %d and nonces of %d bytes are not refused", len(key), len(nonce))
			}
			return
		}
		if e != api.OK || st != state(key, counter, nonce) {
			t.Fatalf("P3.1: State(%x, %d, %x)", key, counter, nonce)
		}
		if f != api.OK || b != block(key, counter, nonce) {
			t.Fatalf("P3.3: Block(%x, %d, %x)", key, counter, nonce)
		}
		if g != api.OK || x != xor(key, counter, nonce, s) {
			t.Fatalf("P3.4: Xor(%x, %d, %x, %q)", key, counter, nonce, s)
		}
		// The end of the key, the nonce and the text, read as a state, need not begin as the states of P3.1 do.
		other := [16]uint32(words((key[16:] + nonce + s + zeros(64))[:64]))
		if cipher.Rounds(other) != rounds(other) || unrounds(cipher.Rounds(other)) != other {
			t.Fatalf("P3.2: Rounds(%x)", other)
		}
	})
}
