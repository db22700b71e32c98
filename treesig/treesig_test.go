package treesig_test

import (
	"crypto/sha256"
	"encoding/hex"
	"math"
	"math/rand"
	"slices"
	"strconv"
	"strings"
	"sync"
	"testing"

	"custody/api"
	"custody/hash"
	"custody/kdf"
	"custody/merkle"
	"custody/treesig"
	"custody/wire"
	"custody/wots"
)

const (
	top  = 6       // the greatest height
	most = 1 << 20 // bytes in the longest message
	once = 560     // bytes in a one-time signature
)

// extremes are numbers that are neither a height nor an index.
var extremes = []int{-1, -2, -6, -7, -64, -256, math.MinInt32, -1 << 32, -1<<32 + 1, math.MinInt, math.MinInt + 1, 64, 65, 127, 128, 255, 256, 1 << 16, math.MaxInt32, 1 << 32, 1<<32 + 1, 1<<32 + 6, 1 << 62, math.MaxInt - 1, math.MaxInt}

// tree is a tree that a test makes itself. Its one-time keys may have any seeds, so that anybody can be a signer.
type tree struct {
	seeds  []string
	leaves []api.Digest
}

// plant returns the tree of one-time keys with some seeds, of which there are as many as a tree has leaves.
func plant(seeds []string) tree {
	l := make([]api.Digest, len(seeds))
	for i, seed := range seeds {
		l[i] = wots.Public(seed)
	}
	return tree{seeds, l}
}

// grow returns the tree of P10.1.
func grow(seed string, height int) tree {
	var seeds []string
	for index := range 1 << height {
		seeds = append(seeds, kdf.Derive(seed, "leaf", string(wire.Int(index))))
	}
	return plant(seeds)
}

// public is P10.1.
func (x tree) public() api.Digest { return merkle.Root(x.leaves) }

// parts returns the three parts of the signature of P10.3.
func (x tree) parts(index int, message string) (string, string, []api.Digest) {
	proof, e := merkle.Prove(x.leaves, index)
	if e != api.OK {
		panic("a test asks for a signature with an index that its tree does not have")
	}
	return string(wire.Int(index)), wots.Sign(x.seeds[index], digestOf(x.public(), index, message)), proof
}

// sign is P10.3.
func (x tree) sign(index int, message string) string {
	number, signature, proof := x.parts(index, message)
	return joined(number, signature, proof)
}

// joined returns a signature that has some parts.
func joined(number, signature string, proof []api.Digest) string {
	return number + string(wire.Bytes(signature)) + string(wire.Digests(proof))
}

// digestOf is P10.2.
func digestOf(public api.Digest, index int, message string) api.Digest {
	return hash.Of(api.TagMessage, string(public[:]), string(wire.Int(index)), message)
}

// verified is P10.4.
func verified(public api.Digest, height int, message, signature string) (int, api.Errno) {
	if height < 0 || height > top {
		return 0, api.ErrArg
	}
	if len(message) > most {
		return 0, api.ErrLimit
	}
	b := []byte(signature)
	index, used, e := wire.GetInt(b)
	if e != api.OK {
		return 0, e
	}
	b = b[used:]
	second, used, e := wire.GetBytes(b)
	if e != api.OK {
		return 0, e
	}
	b = b[used:]
	third, used, e := wire.GetDigests(b)
	if e != api.OK {
		return 0, e
	}
	count := []int{1, 2, 4, 8, 16, 32, 64}[height]
	if used != len(b) || index < 0 || index >= count || len(third) != height {
		return 0, api.ErrEncoding
	}
	leaf, e := wots.Recover(digestOf(public, index, message), second)
	if e != api.OK || !merkle.Verify(public, count, index, leaf, third) {
		return 0, api.ErrAuth
	}
	return index, api.OK
}

// element returns the digest number i, which another implementation can make, too.
func element(i int) api.Digest {
	sum := sha256.Sum256([]byte(strconv.Itoa(i)))
	return api.Digest(sum[:16])
}

// filled returns the digest of which all bytes are the same.
func filled(b byte) (d api.Digest) {
	for i := range d {
		d[i] = b
	}
	return d
}

// flip returns a digest of which one bit is another one.
func flip(d api.Digest, bit int) api.Digest {
	d[bit/8] ^= 1 << (bit % 8)
	return d
}

// flipped returns a text of which one bit is another one.
func flipped(s string, bit int) string {
	b := []byte(s)
	b[bit/8] ^= 1 << (bit % 8)
	return string(b)
}

// count returns n bytes, each one more than the one before it, which another implementation can make, too.
func count(n int) string {
	b := make([]byte, n)
	for i := range b {
		b[i] = byte(i)
	}
	return string(b)
}

// seeds returns seeds of all sorts.
func seeds() []string {
	return []string{strings.Repeat("s", 32), count(32), strings.Repeat("\x00", 32), strings.Repeat("\xff", 32)}
}

// messages returns messages of all sorts and lengths.
func messages() []string {
	l := []string{"message", "\x00", "\xff\xfe\x80", "80\x80", count(256)}
	for _, n := range []int{0, 1, 15, 16, 17, 32, 36, 37, 55, 64, 255, 256, 4000, most - 1, most} {
		l = append(l, strings.Repeat("x", n))
	}
	return l
}

// random returns n random bytes.
func random(r *rand.Rand, n int) string {
	b := make([]byte, n)
	r.Read(b)
	return string(b)
}

// digest returns a random digest.
func digest(r *rand.Rand) api.Digest { return api.Digest([]byte(random(r, 16))) }

// brief returns a few bytes that depend on all bytes of many.
func brief(s string) []byte {
	sum := sha256.Sum256([]byte(s))
	return sum[:12]
}

// isHex checks bytes against what another implementation computes.
func isHex(t *testing.T, promise, name string, got []byte, want string) {
	t.Helper()
	if h := hex.EncodeToString(got); h != want {
		t.Errorf("%s: %s is %s, not %s", promise, name, h, want)
	}
}

// isPublic checks a public key against P10.1, and returns it.
func isPublic(t *testing.T, seed string, height int, x tree) api.Digest {
	t.Helper()
	got, e := treesig.Public(seed, height)
	if e != api.OK || got != x.public() {
		t.Fatalf("P10.1: Public of the seed %x and the height %d is %x, not %x, error %d", seed, height, got, x.public(), e)
	}
	return got
}

// isNoTree checks that there is neither a public key nor a signature of a seed and a height, whatever else is wrong.
func isNoTree(t *testing.T, seed string, height int) {
	t.Helper()
	if got, e := treesig.Public(seed, height); e != api.ErrArg || got != (api.Digest{}) {
		t.Errorf("P10.1: Public of a seed of %d bytes and the height %d is %x, error %d", len(seed), height, got, e)
	}
	for _, index := range []int{0, -1, 64, math.MaxInt} {
		isUnsigned(t, seed, height, index, "", api.ErrArg)
	}
	isUnsigned(t, seed, height, 0, strings.Repeat("x", most+1), api.ErrArg)
}

// isDigest checks what is signed against P10.2, and returns it.
func isDigest(t *testing.T, public api.Digest, index int, message string) api.Digest {
	t.Helper()
	got := treesig.Digest(public, index, message)
	if want := digestOf(public, index, message); got != want {
		t.Fatalf("P10.2: Digest of the key %x, the index %d and %d bytes is %x, not %x", public, index, len(message), got, want)
	}
	return got
}

// isSigned checks a signature against P10.3, and that it is accepted with its index (P10.5), and returns it.
func isSigned(t *testing.T, seed string, height, index int, message string, x tree) string {
	t.Helper()
	got, e := treesig.Sign(seed, height, index, message)
	if e != api.OK || got != x.sign(index, message) {
		t.Fatalf("P10.3: Sign with the seed %x, the height %d and the index %d for %d bytes is %x, error %d", seed, height, index, len(message), got, e)
	}
	if n := isVerified(t, x.public(), height, message, got); n != index {
		t.Fatalf("P10.5: the signature with the index %d is accepted with %d", index, n)
	}
	return got
}

// isUnsigned checks that Sign returns an error.
func isUnsigned(t *testing.T, seed string, height, index int, message string, want api.Errno) {
	t.Helper()
	if got, e := treesig.Sign(seed, height, index, message); got != "" || e != want {
		t.Errorf("P10.3: Sign with a seed of %d bytes, the height %d and the index %d for %d bytes is %x, error %d, not %d", len(seed), height, index, len(message), got, e, want)
	}
}

// agrees checks the results of Verify against P10.4, and returns the error.
func agrees(t *testing.T, public api.Digest, height int, message, signature string) api.Errno {
	t.Helper()
	got, e := treesig.Verify(public, height, message, signature)
	if want, wanted := verified(public, height, message, signature); got != want || e != wanted {
		t.Fatalf("P10.4: Verify for the key %x, the height %d, %d bytes and %x is %d, error %d, not %d, error %d", public, height, len(message), signature, got, e, want, wanted)
	}
	return e
}

// isVerified checks that Verify accepts a signature, and returns the index.
func isVerified(t *testing.T, public api.Digest, height int, message, signature string) int {
	t.Helper()
	index, e := treesig.Verify(public, height, message, signature)
	if e != api.OK {
		t.Fatalf("P10.4: for the key %x, the height %d and %d bytes the signature %x is not accepted: error %d", public, height, len(message), signature, e)
	}
	return index
}

// isRefused checks that Verify returns an error.
func isRefused(t *testing.T, public api.Digest, height int, message, signature string, want api.Errno) {
	t.Helper()
	if got, e := treesig.Verify(public, height, message, signature); got != 0 || e != want {
		t.Errorf("P10.4: Verify for the key %x, the height %d, %d bytes and %x is %d, error %d, not %d", public, height, len(message), signature, got, e, want)
	}
}

// TestExamples checks the chapter's constant and examples.
func TestExamples(t *testing.T) {
	if treesig.MaxHeight != top {
		t.Error("P10.1: the constant is wrong")
	}
	seed := seeds()[0]
	if got, e := treesig.Public(seed[1:], 2); got != (api.Digest{}) || e != api.ErrArg {
		t.Errorf("P10.1: Public of 31 bytes is %x, error %d", got, e)
	}
	if got, e := treesig.Public(seed, 7); got != (api.Digest{}) || e != api.ErrArg {
		t.Errorf("P10.1: Public for the height 7 is %x, error %d", got, e)
	}
	isUnsigned(t, seed, 1, 2, "m", api.ErrSpent)
	public, e := treesig.Public(seed, 1)
	if e != api.OK {
		t.Error("P10.1: error", e)
	}
	s, e := treesig.Sign(seed, 1, 1, "m")
	if e != api.OK {
		t.Error("P10.3: error", e)
	}
	if got := isVerified(t, public, 1, "m", s); got != 1 {
		t.Error("P10.4: the index is", got)
	}
	isRefused(t, public, 1, "n", s, api.ErrAuth)
}

// TestPublicKnown checks public keys against another implementation.
func TestPublicKnown(t *testing.T) {
	for i, keys := range [][]string{
		{"16b994e02323c5ae7e09a8cc0e9b517e", "355a563f3192613261f01037da0236c1", "a1ecbeb541ee38df7494922068a1577c", "bf4b6178a42c7657dfc745fd508eed3e", "4382b9aea5d0bb406efb8105743ce86a", "a1b5d4cb4095efc57269e36177164d9e", "6db703e2d8d911acac1e90af8e975c0f"},
		{"74492d91393b1a83405a8f78216ffd26", "be34a2b16e024cff040fc834a0170ff1", "7f853ef9a3805e92585da14377629818", "517b7c30d09e38b003873b19cb337dba", "80a39a99e985e153b5e7d5714f480400", "7fd69ebaad1ffc6e56927cd759db5e05", "b8903d82704e5712cd79f3069779d971"},
		{"07d606b70b908e01e239ef8b5b6b9161", "b632a470ab802d41b651da50aff10936", "e09724fffe57a57707fc217bd5342cb5", "dffd97e195c5d63787668bf74179afb0", "ed41cbf1e7e3e1552efbadaa6a6ccaf2", "2eb3f6581e455d8a3bcac1701464b324", "7d8780865e9c6396351f39aa059719f2"},
		{"9e8681529f6d47ba7d882272bdbeb486", "8f56aed9e868dc0c5e4f5d217fa74494", "d0c09f4c006a8709106842ec67dd36fd", "6ba6b3201474b23b58a09ada00dad1b4", "5d45a5093e34ae19c539a3170df318b9", "9ba11d905bde5db90ed800b498355ce2", "12b71b8b2e3eef1b45126b808886d210"},
	} {
		for height, want := range keys {
			got, e := treesig.Public(seeds()[i], height)
			if e != api.OK {
				t.Errorf("P10.1: Public for the height %d: error %d", height, e)
			}
			isHex(t, "P10.1", "the key of seed "+strconv.Itoa(i)+" for the height "+strconv.Itoa(height), got[:], want)
		}
	}
}

// TestPublic compares public keys with P10.1, for each height, and checks that they are different.
func TestPublic(t *testing.T) {
	seen := map[api.Digest]bool{}
	for _, seed := range append(seeds(), flipped(count(32), 0), flipped(count(32), 255), count(33)[1:]) {
		for height := range top + 1 {
			public := isPublic(t, seed, height, grow(seed, height))
			if seen[public] {
				t.Errorf("P10.1: the key of the seed %x for the height %d is another one's", seed, height)
			}
			seen[public] = true
		}
	}
}

// TestPublicDepends checks that each bit of the seed changes the public key.
func TestPublicDepends(t *testing.T) {
	seed := count(32)
	for _, height := range []int{0, 1} {
		public, _ := treesig.Public(seed, height)
		for bit := range 8 * len(seed) {
			if other, e := treesig.Public(flipped(seed, bit), height); e != api.OK || other == public {
				t.Fatalf("P10.1: the key does not depend on bit %d of the seed, error %d", bit, e)
			}
		}
	}
}

// TestNoTree checks that seeds of all other lengths are refused, and all other heights, and that Sign returns this error before all others.
func TestNoTree(t *testing.T) {
	seed := count(32)
	for n := range 200 {
		for _, height := range []int{0, 1, top, top + 1, -1} {
			if n != len(seed) || height < 0 || height > top {
				isNoTree(t, count(n), height)
			}
		}
	}
	for _, n := range []int{256, 256 + 32, 1 << 16, 1<<16 + 32, 1 << 20, 1<<24 + 32} {
		isNoTree(t, strings.Repeat("s", n), 2)
	}
	for _, height := range append(extremes, 7, 8, 16, 31, 32, 33, 63) {
		isNoTree(t, seed, height)
		isNoTree(t, "", height)
	}
}

// TestDigestKnown checks what is signed against another implementation.
func TestDigestKnown(t *testing.T) {
	for _, x := range []struct {
		public  api.Digest
		index   int
		message string
		want    string
	}{
		{api.Digest{}, 0, "", "391f92fd71038095659e2d1eb1b9aa5e"},
		{api.Digest{}, 0, "m", "c255bcb9dab9f3450da8d56394d52d29"},
		{filled(255), 63, "message", "dada258ff512a9dca0d9528eb150d09c"},
		{element(1), 1, count(32), "aa16dbe5b0cdfc3df7ed6b3e2538d4e3"},
		{element(1), -1, "", "2f5c77cc73111ef22bd68f57e840a3a8"},
		{element(2), -257, "m", "800932e46df6062cd680f628eeadb04e"},
		{element(2), 256, "m", "35f53764f8a5194aa2ff169ef19b81b9"},
		{element(3), math.MaxInt, "m", "4599b51c3ebea265f5f9cf28746fd630"},
		{element(3), math.MinInt, "m", "218ba31019f9a6ec0c9e3f993eab19b9"},
		{element(4), 2, strings.Repeat("x", most), "eaf2f62e6f0ca3f10f691f552fe16bc6"},
		{element(4), 2, strings.Repeat("x", most+1), "6cd0ec71c32626d90ee4da7af0d80262"},
	} {
		got := treesig.Digest(x.public, x.index, x.message)
		isHex(t, "P10.2", "Digest of "+strconv.Itoa(len(x.message))+" bytes with the index "+strconv.Itoa(x.index), got[:], x.want)
	}
}

// TestDigest compares what is signed with P10.2, for all arguments: also for numbers that are no index, and for messages that are too long to be signed.
func TestDigest(t *testing.T) {
	numbers := append([]int{0, 1, 2, 62, 63}, extremes...)
	long := strings.Repeat("x", most+1)
	for _, public := range []api.Digest{{}, filled(255), element(1)} {
		seen := map[api.Digest]bool{}
		for _, index := range numbers {
			for _, message := range []string{"", "\x00", "m", "message", count(300), string(wire.Int(index)), string(public[:])} {
				d := isDigest(t, public, index, message)
				if seen[d] {
					t.Fatalf("P10.2: Digest of the index %d and %x is another one's", index, message)
				}
				seen[d] = true
			}
		}
		isDigest(t, public, 3, long)
		isDigest(t, public, -3, long+long)
	}
	for _, message := range messages() {
		isDigest(t, element(1), 5, message)
	}
}

// TestDigestDepends checks that each bit of the public key and the message counts, and the index, and which is which.
func TestDigestDepends(t *testing.T) {
	public, message := element(1), count(100)
	d := isDigest(t, public, 1, message)
	for bit := range 8 * len(public) {
		if isDigest(t, flip(public, bit), 1, message) == d {
			t.Fatalf("P10.2: bit %d of the key does not count", bit)
		}
	}
	for bit := range 8 * len(message) {
		if isDigest(t, public, 1, flipped(message, bit)) == d {
			t.Fatalf("P10.2: bit %d of the message does not count", bit)
		}
	}
	for bit := range 64 {
		if isDigest(t, public, 1^1<<bit, message) == d {
			t.Fatalf("P10.2: bit %d of the index does not count", bit)
		}
	}
	// The bytes of the index 256 are those of 1, and one more, with which a message may begin.
	if isDigest(t, public, 256, "m") == isDigest(t, public, 1, "\x00m") {
		t.Error("P10.2: a byte of the index may be one of the message")
	}
}

// TestSignKnown checks signatures against another implementation.
func TestSignKnown(t *testing.T) {
	for _, x := range []struct {
		seed, height, index int
		message             string
		size                int
		want                string
	}{
		{0, 0, 0, "", 565, "f0a915770e3be4c1e22dc8b6"},
		{0, 1, 1, "m", 583, "475f03c68e3b8d428ee2a66e"},
		{1, 2, 0, "message", 598, "9d5230b74d550b5e0dc1b09c"},
		{1, 3, 5, "message", 615, "56d6e83ee0b5ef58f5a20b90"},
		{2, 4, 15, "", 631, "5bb5eef4d15182ce3894a467"},
		{3, 5, 17, "\x00", 647, "1cc523693ec25e79c613c581"},
		{1, 6, 0, count(32), 662, "20ce9423546c239701b16395"},
		{0, 6, 63, "m", 663, "608cd131dcbb50d3e02dbc20"},
		{2, 6, 42, strings.Repeat("x", most), 663, "45810f50fc5d2ab5d6fbc54c"},
	} {
		s, e := treesig.Sign(seeds()[x.seed], x.height, x.index, x.message)
		if e != api.OK || len(s) != x.size {
			t.Errorf("P10.3: the signature with the index %d has %d bytes, error %d", x.index, len(s), e)
		}
		isHex(t, "P10.3", "the signature with the index "+strconv.Itoa(x.index), brief(s), x.want)
	}
}

// TestSign compares signatures with P10.3 for each index of trees of each height, and checks that all of them are accepted with their index (P10.5).
func TestSign(t *testing.T) {
	for height := range top + 1 {
		for _, seed := range seeds()[:4-height/2] {
			x := grow(seed, height)
			for index := range 1 << height {
				isSigned(t, seed, height, index, "message "+strconv.Itoa(index), x)
			}
		}
	}
}

// TestSignMessages checks signatures of messages of all sorts and lengths up to the longest.
func TestSignMessages(t *testing.T) {
	seed := count(32)
	x := grow(seed, 2)
	seen := map[string]bool{}
	for i, message := range messages() {
		s := isSigned(t, seed, 2, i%4, message, x)
		if seen[s] {
			t.Errorf("P10.3: the signature of %d bytes is another one's", len(message))
		}
		seen[s] = true
	}
}

// TestSignParts checks what is in a signature: the index, a one-time signature by the leaf's key, and the proof for the leaf.
func TestSignParts(t *testing.T) {
	seed := seeds()[0]
	for height := range 4 {
		x := grow(seed, height)
		for index := range 1 << height {
			s, e := treesig.Sign(seed, height, index, "m")
			if e != api.OK || len(s) != len(wire.Int(index))+3+once+len(wire.Int(height))+16*height {
				t.Fatalf("P10.3: a signature for the height %d has %d bytes, error %d", height, len(s), e)
			}
			n, used, e := wire.GetInt([]byte(s))
			if e != api.OK || n != index {
				t.Fatalf("P10.3: the first part is %d, error %d", n, e)
			}
			second, more, e := wire.GetBytes([]byte(s)[used:])
			if d := treesig.Digest(x.public(), index, "m"); e != api.OK || !wots.Verify(x.leaves[index], d, second) {
				t.Fatalf("P10.3: the second part is not valid with the one-time key %d, error %d", index, e)
			}
			third, last, e := wire.GetDigests([]byte(s)[used+more:])
			if e != api.OK || used+more+last != len(s) || !merkle.Verify(x.public(), 1<<height, index, x.leaves[index], third) {
				t.Fatalf("P10.3: the third part is no proof for the one-time key %d, error %d", index, e)
			}
		}
	}
}

// TestSignRefused checks the errors of Sign and their order, for numbers that are no index, and messages that are too long.
func TestSignRefused(t *testing.T) {
	seed := count(32)
	for height := range top + 1 {
		for _, index := range append(extremes, 1<<height, 1<<height+1, 2<<height, -1<<height, 1<<32|1<<height, 1<<(height+8)) {
			for _, n := range []int{0, most, most + 1} {
				isUnsigned(t, seed, height, index, strings.Repeat("x", n), api.ErrSpent)
			}
		}
		for _, index := range []int{0, 1<<height - 1} {
			for _, n := range []int{most + 1, most + 2, 2 * most, 1<<24 + 1} {
				isUnsigned(t, seed, height, index, strings.Repeat("x", n), api.ErrLimit)
			}
			isUnsigned(t, seed[1:], height, index, strings.Repeat("x", most+1), api.ErrArg)
		}
	}
}

// TestSignDepends checks that each bit of the seed and the message changes the one-time signature, and that the height and the index do.
func TestSignDepends(t *testing.T) {
	second := func(seed string, height, index int, message string) string {
		s, e := treesig.Sign(seed, height, index, message)
		if e != api.OK {
			t.Fatalf("P10.3: Sign with the height %d and the index %d: error %d", height, index, e)
		}
		text, _, e := wire.GetBytes([]byte(s)[len(wire.Int(index)):])
		if e != api.OK {
			t.Fatalf("P10.3: the second part with the height %d and the index %d: error %d", height, index, e)
		}
		return text
	}
	seed, message := count(32), count(20)
	s := second(seed, 1, 1, message)
	for bit := range 8 * len(seed) {
		if second(flipped(seed, bit), 1, 1, message) == s {
			t.Fatalf("P10.3: bit %d of the seed does not count", bit)
		}
	}
	for bit := range 8 * len(message) {
		if second(seed, 1, 1, flipped(message, bit)) == s {
			t.Fatalf("P10.3: bit %d of the message does not count", bit)
		}
	}
	seen := map[string]bool{}
	for height := range 4 {
		for index := range 1 << height {
			other := second(seed, height, index, message)
			if seen[other] {
				t.Fatalf("P10.3: the one-time signature for the height %d with the index %d is another one's", height, index)
			}
			seen[other] = true
		}
	}
}

// TestVerifyAnybody checks that signatures in any trees are accepted, as those of P10.1 are not recognized: with seeds of any sort and length, and with the same one at several places.
func TestVerifyAnybody(t *testing.T) {
	r := rand.New(rand.NewSource(1))
	for height := range top + 1 {
		var l []string
		for range 1 << height {
			l = append(l, random(r, r.Intn(70)))
		}
		for _, x := range []tree{plant(l), plant(slices.Repeat([]string{""}, 1<<height))} {
			for range 4 {
				index, message := r.Intn(1<<height), random(r, r.Intn(100))
				s := x.sign(index, message)
				if got := isVerified(t, x.public(), height, message, s); got != index {
					t.Fatalf("P10.4: the index is %d, not %d", got, index)
				}
				isRefused(t, x.public(), height, message+"x", s, api.ErrAuth)
				isRefused(t, digest(r), height, message, s, api.ErrAuth)
			}
		}
	}
}

// TestVerifyBits checks that each bit of the public key, the message and the signature counts.
func TestVerifyBits(t *testing.T) {
	message := count(30)
	for _, height := range []int{0, 2} {
		x := grow("", height)
		public := x.public()
		index := 1<<height - 1
		s := x.sign(index, message)
		for bit := range 8 * len(public) {
			isRefused(t, flip(public, bit), height, message, s, api.ErrAuth)
		}
		for bit := range 8 * len(message) {
			isRefused(t, public, height, flipped(message, bit), s, api.ErrAuth)
		}
		for bit := range 8 * len(s) {
			if e := agrees(t, public, height, message, flipped(s, bit)); e == api.OK {
				t.Fatalf("P10.4: bit %d of a signature for the height %d does not count", bit, height)
			}
		}
	}
}

// TestVerifyPrefixes checks that a proper prefix of a signature is not accepted, and neither is a signature with bytes after it (P10.6), nor one with a byte less, or more, at any place.
func TestVerifyPrefixes(t *testing.T) {
	for _, height := range []int{0, 1, 2, top} {
		x := grow("", height)
		index, public := 1<<height-1, x.public()
		s := x.sign(index, "m")
		for n := range len(s) {
			isRefused(t, public, height, "m", s[:n], api.ErrTruncated)
		}
		for b := range 256 {
			isRefused(t, public, height, "m", s+string([]byte{byte(b)}), api.ErrEncoding)
		}
		for _, n := range []int{2, 15, 16, 17, 32, 560, 1 << 20} {
			isRefused(t, public, height, "m", s+strings.Repeat("\x00", n), api.ErrEncoding)
		}
		isRefused(t, public, height, "m", s+s, api.ErrEncoding)
		isVerified(t, public, height, "m", s)
		for at := range len(s) {
			if agrees(t, public, height, "m", s[:at]+s[at+1:]) == api.OK || agrees(t, public, height, "m", s[:at]+"\x80"+s[at:]) == api.OK {
				t.Fatalf("P10.6: a byte less, or more, before byte %d is accepted", at)
			}
		}
	}
}

// TestVerifyOneIndex checks that a signature is accepted for one index at most (P10.6), also if the leaves are all the same, so that the index leads to the same root.
func TestVerifyOneIndex(t *testing.T) {
	for height := range 5 {
		for _, x := range []tree{grow("", height), plant(slices.Repeat([]string{"a"}, 1<<height))} {
			for index := range 1 << height {
				number, signature, proof := x.parts(index, "m")
				accepted := 0
				for other := range 1 << height {
					s := joined(string(wire.Int(other)), signature, proof)
					if agrees(t, x.public(), height, "m", s) == api.OK {
						accepted++
					}
				}
				if accepted != 1 || isVerified(t, x.public(), height, "m", joined(number, signature, proof)) != index {
					t.Fatalf("P10.6: a signature for the height %d is accepted for %d indices", height, accepted)
				}
				for _, other := range append(extremes, 1<<height, 1<<height+index, index-1<<height) {
					isRefused(t, x.public(), height, "m", joined(string(wire.Int(other)), signature, proof), api.ErrEncoding)
				}
				for _, wrong := range []string{"\x81\x00", "\x82\x00" + string(byte(index)), "\x88\x00\x00\x00\x00\x00\x00\x00" + string(byte(index)), "\x89" + strings.Repeat("\x00", 9), "\x76" + strings.Repeat("\xff", 9)} {
					isRefused(t, x.public(), height, "m", joined(wrong, signature, proof), api.ErrEncoding)
				}
			}
		}
	}
}

// TestVerifyHeights checks that a signature is accepted for the height of its tree only, and that other heights are refused before anything else.
func TestVerifyHeights(t *testing.T) {
	for height := range top + 1 {
		x := grow("", height)
		s := x.sign(0, "m")
		for other := range top + 1 {
			if other == height {
				isVerified(t, x.public(), other, "m", s)
			} else {
				isRefused(t, x.public(), other, "m", s, api.ErrEncoding)
			}
		}
		for _, other := range append(extremes, 7, 8, 31, 32, 33, 63) {
			for _, signature := range []string{s, "", "\x00", s + "x", s[1:]} {
				isRefused(t, x.public(), other, "m", signature, api.ErrArg)
			}
			isRefused(t, x.public(), other, strings.Repeat("x", most+1), s, api.ErrArg)
		}
	}
}

// TestVerifyMessages checks that messages of up to 2^20 bytes are accepted, and longer ones refused before the signature is looked at.
func TestVerifyMessages(t *testing.T) {
	x := grow("", 1)
	for _, message := range messages() {
		s := x.sign(1, message)
		isVerified(t, x.public(), 1, message, s)
		if len(message) < most {
			isRefused(t, x.public(), 1, message+"\x00", s, api.ErrAuth)
		}
	}
	for _, n := range []int{most + 1, most + 2, 2 * most, 1<<24 + 1} {
		message := strings.Repeat("x", n)
		for _, signature := range []string{x.sign(1, message), x.sign(1, message[:most]), "", "\x00", "\x81"} {
			isRefused(t, x.public(), 1, message, signature, api.ErrLimit)
		}
	}
}

// TestVerifyParts checks the error for each way in which a part of a signature may be wrong, and that an error of an earlier part comes first.
func TestVerifyParts(t *testing.T) {
	x := grow("", 2)
	number, signature, proof := x.parts(1, "m")
	second, third := string(wire.Bytes(signature)), string(wire.Digests(proof))
	isRefused(t, x.public(), 2, "m", "", api.ErrTruncated)
	for _, wrong := range []struct {
		text string
		want api.Errno
	}{
		{number, api.ErrTruncated}, // and nothing else
		{number + second, api.ErrTruncated},
		{"\x00", api.ErrEncoding},                                   // no integer
		{"\x81", api.ErrTruncated},                                  // an integer without its byte
		{"\x88\xff\xff\xff\xff\xff\xff\xff\xff", api.ErrEncoding},   // an integer of more than 63 bits
		{number + "\x00", api.ErrEncoding},                          // no length
		{number + "\x7f" + third, api.ErrEncoding},                  // a length of -1
		{number + "\x81\x00" + third, api.ErrEncoding},              // a length of 0 with a leading zero
		{number + "\x82\x02", api.ErrTruncated},                     // half a length
		{number + "\x83\x02\x30\x00" + signature, api.ErrTruncated}, // a length of more bytes than there are
		{number + "\x88\x7f" + strings.Repeat("\xff", 7) + signature, api.ErrTruncated},
		{number + second + "\x00", api.ErrEncoding},                  // no number of digests
		{number + second + "\x7f", api.ErrEncoding},                  // a number of -1
		{number + second + "\x81\x00" + third[1:], api.ErrEncoding},  // a number of 0 with a leading zero
		{number + second + "\x81\x03" + third[2:], api.ErrTruncated}, // a number of more digests than there are
		{number + second + "\x88\x7f" + strings.Repeat("\xff", 7) + third, api.ErrTruncated},
		{number + second + third[:len(third)-1], api.ErrTruncated},
		{number + second + third + "\x80", api.ErrEncoding}, // a fourth part
		{string(wire.Int(4)) + second + third, api.ErrEncoding},
		{string(wire.Int(-1)) + second + third, api.ErrEncoding},
		{string(wire.Int(4)) + second + third[:len(third)-1], api.ErrTruncated}, // no index, but first no list
		{string(wire.Int(4)) + "\x00" + third, api.ErrEncoding},
		{string(wire.Int(4)) + "\x83" + third[:2], api.ErrTruncated},
		{joined(number, signature, nil), api.ErrEncoding},
		{joined(number, signature, proof[:1]), api.ErrEncoding},
		{joined(number, signature, append(proof[:2:2], api.Digest{})), api.ErrEncoding},
		{joined(number, "", proof[:1]), api.ErrEncoding}, // no one-time signature, but first a wrong number of digests
		{joined(number, "", proof), api.ErrAuth},
		{joined(number, "short", proof), api.ErrAuth},
		{joined(number, signature[1:], proof), api.ErrAuth},
		{joined(number, signature+"\x00", proof), api.ErrAuth},
		{joined(number, signature+signature, proof), api.ErrAuth},
		{joined(number, signature, []api.Digest{proof[1], proof[0]}), api.ErrAuth},
		{joined(number, signature, []api.Digest{proof[0], {}}), api.ErrAuth},
		{joined(number, signature, []api.Digest{{}, proof[1]}), api.ErrAuth},
		{joined(string(wire.Int(0)), signature, proof), api.ErrAuth},
	} {
		isRefused(t, x.public(), 2, "m", wrong.text, wrong.want)
	}
	if got := isVerified(t, x.public(), 2, "m", number+second+third); got != 1 {
		t.Error("P10.4: the index is", got)
	}
}

// TestVerifyOrder compares the results of Verify with P10.4 for signatures whose three parts are right or wrong in all combinations, which shows what is checked first.
func TestVerifyOrder(t *testing.T) {
	x, long := grow("", 2), strings.Repeat("x", most+1)
	number, signature, proof := x.parts(1, "m")
	third := string(wire.Digests(proof))
	numbers := []string{number, "", "\x80", "\x81", "\x81\x00", "\x82\x01", "\x00", "\xff", string(wire.Int(3)), string(wire.Int(4)), string(wire.Int(-1)), string(wire.Int(-2)), string(wire.Int(math.MaxInt)), string(wire.Int(math.MinInt))}
	seconds := []string{"", "\x00", "\x7f", "\x81\x00", "\x88\x7f"}
	for _, text := range []string{signature, "", "short", signature[1:], signature + "\x00", flipped(signature, 77)} {
		seconds = append(seconds, string(wire.Bytes(text)))
	}
	thirds := []string{third, "", "\x00", "\x7f", "\x80", "\x81\x00", "\x81\x03" + third[2:], third[:len(third)-1], "\x88\x7f" + third, flipped(third, 50)}
	for n := range 5 {
		thirds = append(thirds, string(wire.Digests(make([]api.Digest, n))))
	}
	results := map[api.Errno]int{}
	for _, first := range numbers {
		for _, second := range seconds {
			for _, third := range thirds {
				for _, tail := range []string{"", "\x80", third} {
					s := first + second + third + tail
					for height := -1; height <= top+1; height++ {
						results[agrees(t, x.public(), height, "m", s)]++
					}
					results[agrees(t, x.public(), 2, long, s)]++
					results[agrees(t, x.public(), 7, long, s)]++
				}
			}
		}
	}
	if results[api.OK] != 1 || len(results) != 6 {
		t.Errorf("P10.4: not one signature is accepted, or not all errors occur: %d", results)
	}
}

// TestVerifyOthers checks that of what is near a signature nothing else is accepted: with parts of other signatures, of the same tree or another one.
func TestVerifyOthers(t *testing.T) {
	const height, index = 3, 5
	seed := count(32)
	x := grow(seed, height)
	_, signature, proof := x.parts(index, "m")
	others := []tree{x, grow(seed, height-1), grow(seed, height+1), grow("other", height), plant(slices.Repeat(x.seeds[index:index+1], 1<<height))}
	valid := map[string]bool{}
	for k := range x.leaves {
		valid[x.sign(k, "m")] = true
	}
	accepted := map[string]bool{}
	for i, other := range others {
		for k := range other.leaves {
			for _, message := range []string{"m", "n", ""} {
				number, once, path := other.parts(k, message)
				for _, s := range []string{joined(number, once, path), joined(number, once, proof), joined(number, signature, path), joined(number, signature, proof)} {
					if agrees(t, x.public(), height, "m", s) != api.OK {
						continue
					}
					accepted[s] = true
					if !valid[s] {
						t.Errorf("P10.4: a signature of %q with the index %d in tree %d is accepted", message, k, i)
					}
				}
			}
		}
	}
	if len(accepted) != 1<<height {
		t.Errorf("P10.4: %d signatures are accepted", len(accepted))
	}
	for i := range proof {
		for j := range i {
			swapped := slices.Clone(proof)
			swapped[i], swapped[j] = swapped[j], swapped[i]
			isRefused(t, x.public(), height, "m", joined(string(wire.Int(index)), signature, swapped), api.ErrAuth)
		}
	}
	isRefused(t, x.leaves[index], 0, "m", joined(string(wire.Int(0)), signature, nil), api.ErrAuth)
	isRefused(t, api.Digest{}, height, "m", x.sign(index, "m"), api.ErrAuth)
}

// TestNoState checks that calls do not disturb each other, and that they can be repeated.
func TestNoState(t *testing.T) {
	var done sync.WaitGroup
	for k := range 8 {
		seed, height := flipped(count(32), k), k%3
		x := grow(seed, height)
		index, message := k%(1<<height), "message "+strconv.Itoa(k)
		public, signature := x.public(), x.sign(index, message)
		done.Go(func() {
			for range 20 {
				if got, e := treesig.Public(seed, height); got != public || e != api.OK {
					t.Error("P10.1: keys change while others are made")
				}
				if got, e := treesig.Sign(seed, height, index, message); got != signature || e != api.OK {
					t.Error("P10.3: signatures change while others are made")
				}
				if got, e := treesig.Verify(public, height, message, signature); got != index || e != api.OK {
					t.Error("P10.4: a signature is not accepted while others are")
				}
				if treesig.Digest(public, index, message) != digestOf(public, index, message) {
					t.Error("P10.2: digests change while others are computed")
				}
				treesig.Sign(seed, -1, index, message)
				treesig.Verify(public, height, message, signature[:k])
			}
		})
	}
	done.Wait()
}

// TestExtreme calls all functions with arguments that are long or out of all bounds (P1).
func TestExtreme(t *testing.T) {
	long, seed := count(1<<24), count(32)
	numbers := append([]int{0, 1, top, top + 1}, extremes...)
	for _, height := range numbers {
		for _, index := range numbers {
			for _, text := range []string{"", "m", seed, long} {
				switch {
				case text != seed || height < 0 || height > top:
					isUnsigned(t, text, height, index, text, api.ErrArg)
				case index < 0 || index >= 1<<height:
					isUnsigned(t, text, height, index, text, api.ErrSpent)
				default:
					isSigned(t, text, height, index, text, grow(text, height))
				}
			}
		}
		for _, s := range []string{long, strings.Repeat("\x80", 1<<24), strings.Repeat("\x88\x7f", 1<<20), "\x80\x80" + string(wire.Digests(make([]api.Digest, 1<<16))), "\x80" + string(wire.Bytes(long))} {
			if agrees(t, api.Digest{}, height, "m", s) == api.OK {
				t.Fatalf("P10.4: a signature of %d bytes is accepted", len(s))
			}
		}
	}
}

// FuzzTreesig finds panics, and results that differ from the promises (P1, P10.1 to P10.6).
func FuzzTreesig(f *testing.F) {
	x := grow(count(32), 2)
	f.Add(count(32), 2, 1, "m", x.sign(1, "m"), []byte(x.sign(1, "m"))[:16])
	f.Add(count(31), 0, 0, "", "", []byte{})
	f.Add(count(33), -1, 1, "", "\x80\x80\x80", []byte{1})
	f.Add(count(32), 7, 64, "message", "\x82\x02\x30", []byte{2})
	f.Add(count(32), 1, 2, "\x00", joined("\x80", strings.Repeat("\x00", once), nil), []byte(count(16)))
	f.Fuzz(func(t *testing.T, seed string, height, index int, message, signature string, b []byte) {
		var key api.Digest
		copy(key[:], b)
		isDigest(t, key, index, message)
		if e := agrees(t, key, height, message, signature); e == api.OK {
			t.Fatalf("P10.4: the signature %x is accepted for the key %x", signature, key)
		}
		if len(seed) != api.KeySize || height < 0 || height > top {
			isNoTree(t, seed, height)
			return
		}
		x := grow(seed, height)
		public := isPublic(t, seed, height, x)
		if index < 0 || index >= 1<<height {
			isUnsigned(t, seed, height, index, message, api.ErrSpent)
			return
		}
		if len(message) > most {
			isUnsigned(t, seed, height, index, message, api.ErrLimit)
			return
		}
		s := isSigned(t, seed, height, index, message, x)
		agrees(t, public, height, message, signature)
		agrees(t, public, height, signature, s)
		at := min(len(b), len(s))
		if other := string(b[:at]) + s[at:]; other != s && agrees(t, public, height, message, other) == api.OK {
			t.Fatalf("P10.4: %x is accepted besides %x", other, s)
		}
		for _, cut := range []int{at, len(s) - 1} {
			if cut < len(s) {
				isRefused(t, public, height, message, s[:cut], api.ErrTruncated)
			}
		}
		isRefused(t, public, height, message, s+string(b)+"\x00", api.ErrEncoding)
	})
}
