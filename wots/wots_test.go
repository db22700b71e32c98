package wots_test

import (
	"crypto/hmac"
	"crypto/sha256"
	"encoding/hex"
	"math"
	"math/big"
	"math/rand"
	"slices"
	"strconv"
	"strings"
	"sync"
	"testing"

	"custody/api"
	"custody/hash"
	"custody/wire"
	"custody/wots"
)

const (
	chains = 35            // chains of a key pair
	top    = 15            // the greatest height
	size   = 16            // bytes of a value
	whole  = size * chains // bytes of a signature
)

// extremes are numbers that are neither a chain nor a height.
var extremes = []int{-1, -2, -15, -16, -35, -256, math.MinInt32, -1 << 32, -1<<32 + 5, math.MinInt, math.MinInt + 1, 36, 64, 255, 256, 257, 1 << 16, math.MaxInt32, 1 << 32, 1<<32 + 5, 1 << 62, math.MaxInt - 1, math.MaxInt}

// number is wire.Int of an integer that is not negative.
func number(n int) string {
	digits := big.NewInt(int64(n)).Bytes()
	return string([]byte{byte(128 + len(digits))}) + string(digits)
}

// prefixed is wire.Bytes of a text.
func prefixed(s string) string { return number(len(s)) + s }

// of is hash.Of.
func of(tag byte, parts ...string) api.Digest {
	h := sha256.New()
	h.Write([]byte{tag})
	for _, part := range parts {
		h.Write([]byte(prefixed(part)))
	}
	return api.Digest(h.Sum(nil)[:size])
}

// digitsOf is P9.1.
func digitsOf(d api.Digest) []int {
	var l []int
	checksum := 0
	for _, c := range hex.EncodeToString(d[:]) {
		x := strings.IndexRune("0123456789abcdef", c)
		l, checksum = append(l, x), checksum+15-x
	}
	return append(l, checksum/256, checksum/16%16, checksum%16)
}

// start is the value of a chain at height 0.
func start(seed string, chain int) api.Digest {
	h := hmac.New(sha256.New, []byte(seed))
	h.Write([]byte(prefixed("chain") + prefixed(number(chain))))
	return api.Digest(h.Sum(nil)[:size])
}

// advanced is P9.2 for a chain and heights.
func advanced(chain, from, to int, v api.Digest) api.Digest {
	if to <= from {
		return v
	}
	v = advanced(chain, from, to-1, v)
	return of(4, number(chain), number(to-1), string(v[:]))
}

// valuesOf returns the values of all chains of a seed at some heights.
func valuesOf(seed string, heights []int) string {
	s := ""
	for chain := range chains {
		v := advanced(chain, 0, heights[chain], start(seed, chain))
		s += string(v[:])
	}
	return s
}

// publicOf is P9.3.
func publicOf(seed string) api.Digest {
	return of(5, valuesOf(seed, slices.Repeat([]int{top}, chains)))
}

// signed is P9.4.
func signed(seed string, d api.Digest) string { return valuesOf(seed, digitsOf(d)) }

// value returns the value of a chain in a signature.
func value(signature string, chain int) api.Digest {
	return api.Digest([]byte(signature[size*chain : size*chain+size]))
}

// endsOf returns the ends of the chains on which the values of a signature lie.
func endsOf(d api.Digest, signature string) string {
	s := ""
	for chain, digit := range digitsOf(d) {
		v := advanced(chain, digit, top, value(signature, chain))
		s += string(v[:])
	}
	return s
}

// recovered is P9.5 for a signature of the right length.
func recovered(d api.Digest, signature string) api.Digest { return of(5, endsOf(d, signature)) }

// element returns the digest number i, which another implementation can make, too.
func element(i int) api.Digest {
	sum := sha256.Sum256([]byte(strconv.Itoa(i)))
	return api.Digest(sum[:size])
}

// filled returns the digest of which all bytes are the same.
func filled(b byte) (d api.Digest) {
	for i := range d {
		d[i] = b
	}
	return d
}

// nibble returns a digest with another digit.
func nibble(d api.Digest, i, x int) api.Digest {
	shift := 4 - i%2*4
	d[i/2] = d[i/2]&^(15<<shift) | byte(x<<shift)
	return d
}

// flip returns a digest of which one bit is another one.
func flip(d api.Digest, bit int) api.Digest {
	d[bit/8] ^= 1 << (bit % 8)
	return d
}

// flipped returns a text of which one bit is another one.
func flipped(s string, bit int) string {
	b := []byte(s)
	b[bit/8] ^= 1 << (bit % 8)
	return string(b)
}

// count returns n bytes, each one more than the one before it, which another implementation can make, too.
func count(n int) string {
	b := make([]byte, n)
	for i := range b {
		b[i] = byte(i)
	}
	return string(b)
}

// random returns n random bytes.
func random(r *rand.Rand, n int) string {
	b := make([]byte, n)
	r.Read(b)
	return string(b)
}

// digest returns a random digest.
func digest(r *rand.Rand) api.Digest { return api.Digest([]byte(random(r, size))) }

// replaced returns a signature with another value.
func replaced(signature string, chain int, v string) string {
	return signature[:size*chain] + v + signature[size*chain+size:]
}

// digests returns digests of all sorts: with the least and the greatest checksums, with carries between its digits, and random ones.
func digests() []api.Digest {
	l := []api.Digest{{}, filled(255), filled(0x0f), filled(0xf0), filled(0x77), filled(0x88), {0: 1}, {15: 1}, {0: 0x10}, {15: 0x10}, api.Digest([]byte(count(size)))}
	for n := range 20 {
		l = append(l, element(n))
	}
	return l
}

// seeds returns seeds of several lengths, with the empty one and one of more than a block of the hash. No two of them differ in zeros at their ends only, which are the same key of an HMAC.
func seeds() []string {
	return []string{"", "a", "seed", count(16), count(31), count(32), count(33), count(63), count(64), count(65), count(300), strings.Repeat("\xff", 32)}
}

// exchanged returns a signature with the values of two chains exchanged.
func exchanged(signature string, i, j int) string {
	a, b := value(signature, i), value(signature, j)
	return replaced(replaced(signature, i, string(b[:])), j, string(a[:]))
}

// isDigits checks the digits of a digest against P9.1, and returns them.
func isDigits(t *testing.T, d api.Digest) []int {
	t.Helper()
	got, want := wots.Digits(d), digitsOf(d)
	if !slices.Equal(got, want) {
		t.Fatalf("P9.1: the digits of %x are %d, not %d", d, got, want)
	}
	return got
}

// isAdvanced checks a value of a chain against P9.2, and returns it.
func isAdvanced(t *testing.T, chain, from, to int, v api.Digest) api.Digest {
	t.Helper()
	got, want := wots.Advance(chain, from, to, v), advanced(chain, from, to, v)
	if got != want {
		t.Fatalf("P9.2: Advance of %x in chain %d from %d to %d is %x, not %x", v, chain, from, to, got, want)
	}
	return got
}

// isNoChain checks that there is no value of a chain.
func isNoChain(t *testing.T, chain, from, to int) {
	t.Helper()
	for _, v := range []api.Digest{{}, element(1), filled(255)} {
		if got := wots.Advance(chain, from, to, v); got != (api.Digest{}) {
			t.Errorf("P9.2: Advance of %x in chain %d from %d to %d is %x", v, chain, from, to, got)
		}
	}
}

// isPublic checks a public key against P9.3, and returns it.
func isPublic(t *testing.T, seed string) api.Digest {
	t.Helper()
	got, want := wots.Public(seed), publicOf(seed)
	if got != want {
		t.Fatalf("P9.3: Public of a seed of %d bytes is %x, not %x", len(seed), got, want)
	}
	return got
}

// isSigned checks a signature against P9.4, and that it is accepted (P9.6), and returns it.
func isSigned(t *testing.T, seed string, d api.Digest) string {
	t.Helper()
	got := wots.Sign(seed, d)
	if got != signed(seed, d) {
		t.Fatalf("P9.4: Sign of %x with a seed of %d bytes is %x", d, len(seed), got)
	}
	if !isVerified(t, wots.Public(seed), d, got) {
		t.Fatalf("P9.6: the signature of %x with a seed of %d bytes is not accepted", d, len(seed))
	}
	return got
}

// isRecovered checks a key for which a signature of the right length is valid against P9.5, and returns it.
func isRecovered(t *testing.T, d api.Digest, signature string) api.Digest {
	t.Helper()
	got, e := wots.Recover(d, signature)
	if want := recovered(d, signature); e != api.OK || got != want {
		t.Fatalf("P9.5: Recover for %x and %x is %x, not %x, error %d", d, signature, got, want, e)
	}
	return got
}

// isVerified checks that Verify accepts what P9.5 accepts, of signatures of the right length.
func isVerified(t *testing.T, public, d api.Digest, signature string) bool {
	t.Helper()
	got := wots.Verify(public, d, signature)
	if want := recovered(d, signature) == public; got != want {
		t.Fatalf("P9.5: Verify for the key %x, %x and %x is %t", public, d, signature, got)
	}
	return got
}

// isRejected checks that Verify does not accept something.
func isRejected(t *testing.T, public, d api.Digest, signature string) {
	t.Helper()
	if wots.Verify(public, d, signature) {
		t.Fatalf("P9.5: for the key %x and %x a wrong signature of %d bytes is accepted: %x", public, d, len(signature), signature)
	}
}

// isRefused checks that no key is recovered from a signature of a wrong length, and that it is accepted with none.
func isRefused(t *testing.T, d api.Digest, signature string) {
	t.Helper()
	if got, e := wots.Recover(d, signature); e != api.ErrArg || got != (api.Digest{}) {
		t.Errorf("P9.5: Recover of a signature of %d bytes is %x, error %d", len(signature), got, e)
	}
	for _, public := range []api.Digest{{}, d, of(5), of(5, ""), of(5, signature), filled(255)} {
		isRejected(t, public, d, signature)
	}
}

// isHex checks bytes against what another implementation computes.
func isHex(t *testing.T, promise, name string, got []byte, want string) {
	t.Helper()
	if h := hex.EncodeToString(got); h != want {
		t.Errorf("%s: %s is %s, not %s", promise, name, h, want)
	}
}

// isHexDigest is isHex for a digest.
func isHexDigest(t *testing.T, promise, name string, got api.Digest, want string) {
	t.Helper()
	isHex(t, promise, name, got[:], want)
}

// brief returns a few bytes that depend on all bytes of many.
func brief(s string) []byte {
	sum := sha256.Sum256([]byte(s))
	return sum[:12]
}

// TestExamples checks the chapter's constants and examples.
func TestExamples(t *testing.T) {
	if wots.Chains != chains || wots.Top != top || wots.Chains*api.DigestSize != 560 {
		t.Error("P9.1: the constants are wrong")
	}
	if got := wots.Digits(api.Digest{}); !slices.Equal(got, append(make([]int, 32), 1, 14, 0)) {
		t.Error("P9.1: the digits of 16 zero bytes are", got)
	}
	if got := wots.Digits(filled(255)); !slices.Equal(got, append(slices.Repeat([]int{15}, 32), 0, 0, 0)) {
		t.Error("P9.1: the digits of 16 bytes 255 are", got)
	}
	if got, e := wots.Recover(api.Digest{}, ""); got != (api.Digest{}) || e != api.ErrArg {
		t.Errorf("P9.5: Recover of no signature is %x, error %d", got, e)
	}
}

// TestDigitsKnown checks digits against another implementation.
func TestDigitsKnown(t *testing.T) {
	for _, x := range []struct {
		d    api.Digest
		want string
	}{
		{api.Digest{}, "0000000000000000000000000000000000000000000000000000000000000000010e00"},
		{filled(255), "0f0f0f0f0f0f0f0f0f0f0f0f0f0f0f0f0f0f0f0f0f0f0f0f0f0f0f0f0f0f0f0f000000"},
		{element(1), "060b08060b0207030f0f03040f0c0e01090d060b0800040e0f0f050a030f0507000c0f"},
		{element(2), "0d040703050e030a0206050e01060e0e0e00030f05090701080b090b050d0003000f05"},
		{api.Digest([]byte(count(16))), "0000000100020003000400050006000700080009000a000b000c000d000e000f010608"},
		{filled(0x0f), "000f000f000f000f000f000f000f000f000f000f000f000f000f000f000f000f000f00"},
		{filled(0xf0), "0f000f000f000f000f000f000f000f000f000f000f000f000f000f000f000f00000f00"},
		{api.Digest{15: 1}, "0000000000000000000000000000000000000000000000000000000000000001010d0f"},
	} {
		var got []byte
		for _, digit := range isDigits(t, x.d) {
			got = append(got, byte(digit))
		}
		isHex(t, "P9.1", "the digits of "+hex.EncodeToString(x.d[:]), got, x.want)
	}
}

// TestDigits compares digits with P9.1: for each digit at each place among others, and for random digests.
func TestDigits(t *testing.T) {
	r := rand.New(rand.NewSource(1))
	for _, d := range digests() {
		for i := range 32 {
			for x := range 16 {
				if l := isDigits(t, nibble(d, i, x)); len(l) != chains || l[i] != x {
					t.Fatalf("P9.1: digit %d of %x is not %d", i, nibble(d, i, x), x)
				}
			}
		}
	}
	for range 20000 {
		isDigits(t, digest(r))
	}
}

// TestChecksum checks each checksum that there is, from 0 to 480, for digests whose digits have this sum at their beginning, at their end, or spread.
func TestChecksum(t *testing.T) {
	r := rand.New(rand.NewSource(2))
	for checksum := range 481 {
		first, last, spread := filled(255), filled(255), filled(255)
		for n := range checksum {
			first = nibble(first, n/15, 14-n%15)
			last = nibble(last, 31-n/15, 14-n%15)
			for i := r.Intn(32); ; i = (i + 1) % 32 {
				if x := digitsOf(spread)[i]; x > 0 {
					spread = nibble(spread, i, x-1)
					break
				}
			}
		}
		for _, d := range []api.Digest{first, last, spread} {
			l := isDigits(t, d)
			sum := 0
			for i, digit := range l {
				if digit < 0 || digit > 15 {
					t.Fatalf("P9.1: digit %d of %x is %d", i, d, digit)
				}
				if i < 32 {
					sum += 15 - digit
				}
			}
			if sum != checksum || 256*l[32]+16*l[33]+l[34] != checksum {
				t.Fatalf("P9.1: the checksum of %x is %d, not %d", d, l[32:], checksum)
			}
		}
	}
}

// TestDigitsMemory checks that digits are new memory each time, which can be changed without a change of others.
func TestDigitsMemory(t *testing.T) {
	for _, d := range digests() {
		first, second := isDigits(t, d), isDigits(t, d)
		other := isDigits(t, element(100))
		for _, l := range [][]int{first, other} {
			l = l[:cap(l)]
			for i := range l {
				l[i] = -7
			}
		}
		if !slices.Equal(second, digitsOf(d)) {
			t.Fatalf("P9.1: the digits of %x change with others", d)
		}
		isDigits(t, d)
		isSigned(t, "a", d)
	}
}

// TestAdvanceKnown checks values of chains against another implementation.
func TestAdvanceKnown(t *testing.T) {
	for _, x := range []struct {
		chain, from, to int
		v               api.Digest
		want            string
	}{
		{0, 0, 1, api.Digest{}, "107fc0be74c2c7df1657cbdc94379c61"},
		{0, 0, 15, api.Digest{}, "b700930e4d670262d02f0868ca1442d1"},
		{34, 0, 15, api.Digest{}, "0d7a5b5fb6947b62798b510a09f5a0bf"},
		{34, 14, 15, api.Digest([]byte(count(16))), "3777b4026871e3dd3084fcc5dc3fc2c2"},
		{3, 7, 8, api.Digest{9}, "c85f634ddd63da78be6a884c1ae7e6d1"},
		{17, 2, 13, element(7), "16643b4c807c2fd932cc0b7eb8aec083"},
		{1, 0, 1, element(7), "00336d9794a305143430363d1126481d"},
		{9, 8, 15, filled(255), "92e760209469ccdb3454795588a0a0bf"},
	} {
		name := "the value of chain " + strconv.Itoa(x.chain) + " at height " + strconv.Itoa(x.to)
		isHexDigest(t, "P9.2", name, wots.Advance(x.chain, x.from, x.to, x.v), x.want)
	}
}

// TestAdvance compares values with P9.2: in each chain, from each height to each one, also to one that is not greater.
func TestAdvance(t *testing.T) {
	for chain := range chains {
		for from := range top + 1 {
			for to := range top + 1 {
				for _, v := range []api.Digest{{}, element(chain), filled(255)} {
					if got := isAdvanced(t, chain, from, to, v); (got == v) != (to <= from) {
						t.Fatalf("P9.2: Advance in chain %d from %d to %d leads from %x to %x", chain, from, to, v, got)
					}
				}
			}
		}
	}
}

// TestAdvanceStep checks a step against the functions of the lower layers that the chapter names.
func TestAdvanceStep(t *testing.T) {
	for chain := range chains {
		v := element(chain)
		for height := range top {
			next := hash.Of(api.TagChain, string(wire.Int(chain)), string(wire.Int(height)), string(v[:]))
			if got := wots.Advance(chain, height, height+1, v); got != next {
				t.Fatalf("P9.2: in chain %d the value after %x at height %d is %x, not %x", chain, v, height, got, next)
			}
			v = next
		}
		if got := wots.Advance(chain, 0, top, element(chain)); got != v {
			t.Fatalf("P9.2: the end of chain %d is %x, not %x", chain, got, v)
		}
	}
}

// TestAdvanceDivided checks that advancing in two steps leads to where advancing at once does.
func TestAdvanceDivided(t *testing.T) {
	for chain := range chains {
		for from := range top + 1 {
			for to := from; to <= top; to++ {
				want := isAdvanced(t, chain, from, to, element(to))
				for middle := from; middle <= to; middle++ {
					if got := wots.Advance(chain, middle, to, wots.Advance(chain, from, middle, element(to))); got != want {
						t.Fatalf("P9.2: in chain %d advancing from %d over %d to %d leads to %x, not %x", chain, from, middle, to, got, want)
					}
				}
			}
		}
	}
}

// TestAdvanceNone checks that what is no chain or no height has no value, whatever the other arguments are.
func TestAdvanceNone(t *testing.T) {
	for _, chain := range append([]int{chains}, extremes...) {
		for from := range top + 1 {
			for to := range top + 1 {
				isNoChain(t, chain, from, to)
			}
		}
	}
	for _, height := range append([]int{top + 1, 17, 34, 35}, extremes...) {
		for chain := range chains {
			for other := range top + 1 {
				isNoChain(t, chain, height, other)
				isNoChain(t, chain, other, height)
			}
			isNoChain(t, chain, height, height)
		}
		for _, other := range extremes {
			isNoChain(t, 0, height, other)
			isNoChain(t, other, height, 0)
			isNoChain(t, other, 0, height)
			isNoChain(t, other, height, height)
		}
	}
	for _, chain := range []int{0, 15, 16, 17, chains - 1} { // what is a chain need not be a height
		isAdvanced(t, chain, 0, top, element(1))
		isAdvanced(t, chain, top, top, element(1))
		isAdvanced(t, chain, top, 0, element(1))
	}
}

// TestAdvanceDepends checks that each bit of a value counts, and the chain, and the height.
func TestAdvanceDepends(t *testing.T) {
	seen := map[api.Digest]bool{}
	check := func(chain, from, to int, v api.Digest) {
		t.Helper()
		got := isAdvanced(t, chain, from, to, v)
		if seen[got] {
			t.Fatalf("P9.2: Advance of %x in chain %d from %d to %d leads to where another one does", v, chain, from, to)
		}
		seen[got] = true
	}
	for chain := range chains {
		for from := range top {
			for to := from + 1; to <= top; to++ {
				check(chain, from, to, element(1))
			}
		}
	}
	for bit := range 8 * size {
		check(0, 0, top, flip(element(1), bit))
		check(chains-1, top-1, top, flip(element(1), bit))
	}
}

// TestSignKnown checks public keys and signatures against another implementation.
func TestSignKnown(t *testing.T) {
	d := []api.Digest{{}, filled(255), element(1), element(2)}
	for _, x := range []struct {
		seed, public string
		signatures   [4]string
	}{
		{"", "2041cd2029b15d86ecb433d3f076bccf", [4]string{"ab13de7469f9a421666defb2", "89b6061f8c6e6aa0d960bfca", "b0317b04c88ff88e93e8be14", "ad36a2df4fc53576be792238"}},
		{"a", "5c610a9ad8c28f389a42cb9f6cc68427", [4]string{"ee8d96ac68108896772e35f5", "2332abc406580d720a56ca72", "e64aba376f26757f57b4f8a0", "0e3476f95e96b12dacacebe8"}},
		{"seed", "ed044fb70e9ba6387f375a9003715805", [4]string{"b9f1e96242468421f58299e1", "64371dc1fbad891b5f11b768", "3544660f0e91f6c5ada2ada5", "f8dbf55317f7f4849b48ad4d"}},
		{strings.Repeat("\x00", 32), "2041cd2029b15d86ecb433d3f076bccf", [4]string{"ab13de7469f9a421666defb2", "89b6061f8c6e6aa0d960bfca", "b0317b04c88ff88e93e8be14", "ad36a2df4fc53576be792238"}},
		{count(32), "2119aa890e1f69363fc5a3433f35308e", [4]string{"359dd7769d81ee5870cc9a08", "05524c70763bad3fe813a625", "af22c37efd5502d8f74d5f5f", "9a518e2d082183ca1be30a51"}},
		{count(64), "055b7246de7401416d91d07d9da3501a", [4]string{"e77cca76739027008aa703fb", "10e340f22dfb87f3f77ba645", "31f7a379793902ee28fe790e", "bd0c91945f888261b6f4b349"}},
		{count(65), "0f47c9a97322b59d36025f041dfabddf", [4]string{"5de5ad4432936d40fba5088d", "09193539375505541e63ec6f", "27de1d694eebb5cf8cf93a44", "0e11d64bc4a9972260e7c6bc"}},
		{count(300), "1c83df6ff9fd9e80a1345bad387b135e", [4]string{"b32252f0cd80cd8a2fae2f6f", "bb7b0e8eaa6e5bf8bd1c8513", "9eb932af86e17ef8d844cbd0", "3110196038b911504f29f46d"}},
	} {
		name := " of a seed of " + strconv.Itoa(len(x.seed)) + " bytes"
		isHexDigest(t, "P9.3", "the public key"+name, wots.Public(x.seed), x.public)
		for i, want := range x.signatures {
			isHex(t, "P9.4", "the hash of a signature"+name, brief(wots.Sign(x.seed, d[i])), want)
		}
	}
	isHex(t, "P9.4", "the beginning of a signature", []byte(wots.Sign("seed", element(1)))[:48], "5fc7bfbd89acbeaf9949711d23b5875c3d1a68250d6e4cc02ec5a6364d4508f44f728b6b9003ffc82d08872def1bd398")
}

// TestPublic compares public keys with P9.3, for seeds of all sorts of lengths.
func TestPublic(t *testing.T) {
	seen := map[api.Digest]bool{}
	check := func(seed string) {
		t.Helper()
		public := isPublic(t, seed)
		if seen[public] {
			t.Errorf("P9.3: the key of a seed of %d bytes occurs twice", len(seed))
		}
		seen[public] = true
	}
	r := rand.New(rand.NewSource(3))
	for _, seed := range seeds() {
		check(seed)
	}
	for n := 1; n < 140; n++ {
		check(random(r, n) + "end")
	}
	for _, n := range []int{32, 65} { // each bit of a seed counts, also beyond a block
		seed := random(r, n)
		for bit := range 8 * n {
			check(flipped(seed, bit))
		}
	}
}

// TestSign compares signatures with P9.4, and checks that they are accepted with the public key of their seed (P9.6) and with no other one.
func TestSign(t *testing.T) {
	for i, seed := range seeds() {
		public := isPublic(t, seed)
		other := wots.Public(seeds()[(i+1)%len(seeds())])
		for _, d := range digests() {
			s := isSigned(t, seed, d)
			if len(s) != 560 {
				t.Fatalf("P9.4: a signature has %d bytes", len(s))
			}
			if got := isRecovered(t, d, s); got != public {
				t.Fatalf("P9.6: from the signature of %x with a seed of %d bytes %x is recovered, not %x", d, len(seed), got, public)
			}
			isRejected(t, other, d, s)
		}
	}
}

// TestSignValues checks that a signature reveals the value of each chain at the height that is its digit: the start for 0, the end for 15.
func TestSignValues(t *testing.T) {
	for _, d := range digests() {
		s := wots.Sign("seed", d)
		for chain, digit := range digitsOf(d) {
			if got, want := value(s, chain), advanced(chain, 0, digit, start("seed", chain)); got != want {
				t.Fatalf("P9.4: for the digit %d the value of chain %d is %x, not %x", digit, chain, got, want)
			}
		}
	}
	zeros, ones := wots.Sign("seed", api.Digest{}), wots.Sign("seed", filled(255))
	for chain := range 32 {
		if value(zeros, chain) != start("seed", chain) || value(ones, chain) != advanced(chain, 0, top, start("seed", chain)) {
			t.Fatalf("P9.4: chain %d does not begin with its start, or does not end with its end", chain)
		}
	}
	for chain := 32; chain < chains; chain++ {
		if value(ones, chain) != start("seed", chain) {
			t.Fatalf("P9.4: chain %d of the checksum does not begin with its start", chain)
		}
	}
}

// TestSignDepends checks that each bit of the seed changes each value, and each digit that of its chain.
func TestSignDepends(t *testing.T) {
	seed := count(32)
	for _, d := range []api.Digest{{}, filled(255), element(1)} {
		s := isSigned(t, seed, d)
		for bit := range 8 * len(seed) {
			other := wots.Sign(flipped(seed, bit), d)
			for chain := range chains {
				if value(other, chain) == value(s, chain) {
					t.Fatalf("P9.4: chain %d does not depend on bit %d of the seed", chain, bit)
				}
			}
		}
		for i := range 32 {
			for x := range 16 {
				other := isSigned(t, seed, nibble(d, i, x))
				if (value(other, i) == value(s, i)) != (nibble(d, i, x) == d) {
					t.Fatalf("P9.4: the value of chain %d is the same for the digit %d", i, x)
				}
			}
		}
	}
}

// TestRecoverKnown checks keys of signatures that nobody made against another implementation.
func TestRecoverKnown(t *testing.T) {
	zeros, counted := strings.Repeat("\x00", whole), count(whole)
	for _, x := range []struct {
		d         api.Digest
		signature string
		want      string
	}{
		{api.Digest{}, zeros, "566e21168356368e722ca41686ceb219"},
		{filled(255), zeros, "38fccb58743ece04f2c838190f506438"},
		{api.Digest{}, counted, "bed5a616098629a50c3bc77b6f714887"},
		{filled(255), counted, "9a3c235c564802e465d6e661bda05a89"},
		{element(1), counted, "ba87932dac8ec010cf15dd9f7c6fc11a"},
		{element(2), counted, "9417c40f9994367429721c8bee925cba"},
		{api.Digest([]byte(count(16))), strings.Repeat("\xff", whole), "ba18db3c186f392c15be02542a2a550f"},
	} {
		isHexDigest(t, "P9.5", "what is recovered", isRecovered(t, x.d, x.signature), x.want)
	}
}

// TestRecover compares keys with P9.5, for any texts of 560 bytes: each of them is valid for the key that it leads to, and for no other one.
func TestRecover(t *testing.T) {
	r := rand.New(rand.NewSource(4))
	seen := map[api.Digest]bool{}
	for _, d := range digests() {
		for range 20 {
			s := random(r, whole)
			public := isRecovered(t, d, s)
			if seen[public] || !isVerified(t, public, d, s) {
				t.Fatalf("P9.5: %x is recovered twice, or the signature is not accepted with it", public)
			}
			seen[public] = true
			isRejected(t, flip(public, r.Intn(128)), d, s)
			isRejected(t, api.Digest{}, d, s)
			isRejected(t, digest(r), d, s)
		}
	}
}

// TestRecoverRefused checks that signatures of any other length are refused, also those that begin or end with a valid one, and that they are accepted with no key, not even with zeros.
func TestRecoverRefused(t *testing.T) {
	d := element(1)
	s := isSigned(t, "a", d)
	public := wots.Public("a")
	long := s + s + s
	for n := range len(long) + 1 {
		if n == whole {
			continue
		}
		for _, text := range []string{long[:n], long[len(long)-n:], strings.Repeat("\x00", n)} {
			isRefused(t, d, text)
			isRejected(t, public, d, text)
		}
	}
	for _, n := range []int{1 << 16, 1<<16 + whole, 1 << 20} {
		isRefused(t, d, strings.Repeat(s, n/whole+1)[:n])
		isRefused(t, api.Digest{}, strings.Repeat("\x00", n))
	}
	for at := range whole + 1 { // a byte less, or more, at any place
		isRejected(t, public, d, s[:at]+"\x00"+s[at:])
		if at < whole {
			isRejected(t, public, d, s[:at]+s[at+1:])
		}
	}
}

// TestVerifyBits checks that each bit of the public key, the digest and the signature counts.
func TestVerifyBits(t *testing.T) {
	for _, d := range []api.Digest{{}, filled(255), element(1)} {
		public, s := wots.Public("seed"), isSigned(t, "seed", d)
		for bit := range 8 * size {
			isRejected(t, flip(public, bit), d, s)
			isRejected(t, public, flip(d, bit), s)
		}
		for bit := range 8 * whole {
			isRejected(t, public, d, flipped(s, bit))
		}
	}
}

// TestVerifyOthers checks that of what is near a signature nothing else is accepted: with other values, or in another order, or of another digest, seed or key.
func TestVerifyOthers(t *testing.T) {
	for n, d := range []api.Digest{{}, filled(255), filled(0xf0), element(1)} {
		public, s := wots.Public("seed"), isSigned(t, "seed", d)
		others := []string{strings.Repeat("\x00", whole), strings.Repeat("\xff", whole), wots.Sign("other", d), wots.Sign("", d), s[size:] + s[:size], s[1:] + s[:1]}
		for chain, digit := range digitsOf(d) {
			next := (chain + 1) % chains
			others = append(others, replaced(s, chain, strings.Repeat("\x00", size)), exchanged(s, chain, next))
			for height := range top + 1 {
				if height != digit {
					v := advanced(chain, 0, height, start("seed", chain))
					others = append(others, replaced(s, chain, string(v[:])))
				}
			}
		}
		for _, other := range others {
			isRejected(t, public, d, other)
			isRecovered(t, d, other)
		}
		for _, key := range []api.Digest{{}, d, wots.Public("other"), of(5), of(5, s), of(4, endsOf(d, s)), element(n)} {
			isRejected(t, key, d, s)
		}
		for _, other := range digests() {
			if other != d {
				isRejected(t, public, other, s)
			}
		}
	}
}

// TestRecoverSeparate checks that the ends of the chains are not confused: that each of them counts, and their order.
func TestRecoverSeparate(t *testing.T) {
	r := rand.New(rand.NewSource(5))
	// With these digits the first 32 values are the ends themselves.
	d, s := filled(255), random(r, whole)
	public := isRecovered(t, d, s)
	for chain := range chains {
		if got := isRecovered(t, d, replaced(s, chain, random(r, size))); got == public {
			t.Errorf("P9.5: the end of chain %d does not count", chain)
		}
		for other := range chain {
			if got := isRecovered(t, d, exchanged(s, chain, other)); got == public {
				t.Errorf("P9.5: chains %d and %d may be exchanged", other, chain)
			}
		}
	}
}

// isApart checks P9.6 for two different digests: a digit of each is less than that of the other one, so that advancing the chains of a signature leads to no signature of the other one.
func isApart(t *testing.T, a, b api.Digest) {
	t.Helper()
	less, greater := 0, 0
	first, second := wots.Digits(a), wots.Digits(b)
	for i := range first {
		switch {
		case first[i] < second[i]:
			less++
		case first[i] > second[i]:
			greater++
		}
	}
	if less == 0 || greater == 0 {
		t.Fatalf("P9.6: of the digits of %x %d are less than those of %x, and %d greater", a, less, b, greater)
	}
}

// TestApart checks P9.6 for digests that differ in one digit or in two, among others of all sorts, and for random ones.
func TestApart(t *testing.T) {
	r := rand.New(rand.NewSource(6))
	for _, d := range digests() {
		for i := range 32 {
			for x := range 16 {
				other := nibble(d, i, x)
				if other == d {
					continue
				}
				isApart(t, d, other)
				isApart(t, other, d)
				j := r.Intn(32)
				if two := nibble(other, j, r.Intn(16)); two != d {
					isApart(t, d, two)
					isApart(t, two, d)
				}
			}
		}
		for _, other := range digests() {
			if other != d {
				isApart(t, d, other)
			}
		}
	}
	for range 20000 {
		isApart(t, digest(r), digest(r))
	}
	for sum := range 480 { // digests whose digits grow one by one, with all carries in the checksum
		d := api.Digest{}
		for n := range sum {
			d = nibble(d, n/15, n%15+1)
		}
		isApart(t, d, nibble(d, sum/15, sum%15+1))
		isApart(t, d, filled(255))
	}
}

// TestForge checks that a signature of another digest cannot be had by advancing chains alone (P9.6): not even if only one digit is greater, and all chains that have to be advanced are.
func TestForge(t *testing.T) {
	public := wots.Public("seed")
	forge := func(d, other api.Digest) {
		t.Helper()
		s, forged := wots.Sign("seed", d), ""
		to := wots.Digits(other)
		for chain, digit := range wots.Digits(d) {
			v := wots.Advance(chain, digit, to[chain], value(s, chain))
			forged += string(v[:])
		}
		isRejected(t, public, other, forged)
	}
	for _, d := range digests() {
		for i := range 32 {
			for _, x := range []int{0, 7, 8, 15} {
				if other := nibble(d, i, x); other != d {
					forge(d, other)
				}
			}
		}
		for _, other := range digests() {
			if other != d {
				forge(d, other)
			}
		}
	}
}

// areSame checks P9.7 for two signatures, and tells whether they are valid with the same key: then the ends of their chains are the same, or else these ends are two inputs of the hash with the same digest, of which none are known.
func areSame(t *testing.T, a, b api.Digest, p, q string) bool {
	t.Helper()
	ends := func(d api.Digest, s string) (text string) {
		for chain, digit := range wots.Digits(d) {
			v := wots.Advance(chain, digit, wots.Top, value(s, chain))
			text += string(v[:])
		}
		return text
	}
	public, e := wots.Recover(a, p)
	if e != api.OK || !wots.Verify(public, a, p) {
		t.Fatalf("P9.5: the signature %x of %x is not valid", p, a)
	}
	x, y := ends(a, p), ends(b, q)
	if hash.Of(api.TagPublic, x) != public {
		t.Fatalf("P9.7: the key %x is not the digest of the ends of the chains of its signature", public)
	}
	same := wots.Verify(public, b, q)
	if same != (hash.Of(api.TagPublic, y) == public) || same != (x == y) {
		t.Fatalf("P9.7: it is %t that the signatures of %x and %x have the same key, but not that their chains have the same ends", same, a, b)
	}
	return same
}

// at returns the values of chains with some starts at the heights that are the digits of a digest, so that anybody can be a signer.
func at(starts string, d api.Digest) string {
	s := ""
	for chain, digit := range digitsOf(d) {
		v := advanced(chain, 0, digit, value(starts, chain))
		s += string(v[:])
	}
	return s
}

// TestSameChains checks that signatures which are valid with the same key reveal values of the same chains (P9.7): those of one seed, or of one list of starts; and that a value of another chain makes another key.
func TestSameChains(t *testing.T) {
	r := rand.New(rand.NewSource(7))
	all := digests()
	for i, a := range all {
		for _, j := range []int{i, (i + 1) % len(all), r.Intn(len(all))} {
			b, starts := all[j], random(r, whole)
			p, q := wots.Sign("seed", a), wots.Sign("seed", b)
			if !areSame(t, a, b, p, q) || !areSame(t, a, b, at(starts, a), at(starts, b)) {
				t.Fatalf("P9.7: signatures of the digests %d and %d from the same starts have different keys", i, j)
			}
			chain := r.Intn(chains)
			for _, other := range []string{
				wots.Sign("other", b), at(starts, b), random(r, whole), replaced(q, chain, random(r, size)), flipped(q, r.Intn(8*whole)),
				at(replaced(starts, chain, random(r, size)), b),
			} {
				if areSame(t, a, b, p, other) || areSame(t, b, a, other, p) {
					t.Fatalf("P9.7: signatures of the digests %d and %d from different starts have the same key", i, j)
				}
			}
			if i != j && areSame(t, a, b, p, p) {
				t.Fatalf("P9.7: a signature of the digest %d is one of the digest %d", i, j)
			}
		}
	}
}

// TestNoState checks that calls do not disturb each other, and that they can be repeated.
func TestNoState(t *testing.T) {
	var done sync.WaitGroup
	for k := range 8 {
		seed := seeds()[k]
		d, v := element(k), element(k+1)
		public, signature, value := publicOf(seed), signed(seed, d), advanced(k, k, top, v)
		done.Go(func() {
			for range 50 {
				if wots.Public(seed) != public || wots.Sign(seed, d) != signature {
					t.Error("P9.4: keys or signatures change while others are made")
				}
				if got, e := wots.Recover(d, signature); e != api.OK || got != public || !wots.Verify(public, d, signature) {
					t.Error("P9.5: a signature is not accepted while others are")
				}
				if wots.Advance(k, k, top, v) != value || !slices.Equal(wots.Digits(d), digitsOf(d)) {
					t.Error("P9.2: values change while others are computed")
				}
				wots.Recover(d, "")
				wots.Advance(-1, k, top, v)
			}
		})
	}
	done.Wait()
}

// TestExtreme calls all functions with arguments that are long or out of all bounds (P1).
func TestExtreme(t *testing.T) {
	long := count(1 << 20)
	public, d := isPublic(t, long), element(1)
	s := isSigned(t, long, d)
	isRejected(t, public, d, long)
	isRefused(t, d, long)
	isRejected(t, public, api.Digest{}, s)
	numbers := append([]int{0, 1, top, top + 1, chains - 1, chains}, extremes...)
	for _, chain := range numbers {
		for _, from := range numbers {
			for _, to := range numbers {
				if chain < 0 || chain >= chains || from < 0 || from > top || to < 0 || to > top {
					isNoChain(t, chain, from, to)
				} else {
					isAdvanced(t, chain, from, to, d)
				}
			}
		}
	}
}

// FuzzWots finds panics, and results that differ from the promises (P1, P9.1 to P9.7).
func FuzzWots(f *testing.F) {
	f.Add("", []byte{}, "", 0, 0, 0)
	f.Add("a", []byte(count(32)), count(whole), 34, 0, 15)
	f.Add("seed", []byte(strings.Repeat("\xff", 32)), count(whole-1), 35, 3, 2)
	f.Add(count(65), []byte{16: 1}, count(whole+1), -1, -1, 16)
	f.Add(count(64), []byte{0: 255, 31: 1}, strings.Repeat("\x00", whole), 3, 15, 15)
	f.Fuzz(func(t *testing.T, seed string, b []byte, signature string, chain, from, to int) {
		var a, other api.Digest
		copy(other[:], b[copy(a[:], b):])
		isDigits(t, a)
		if chain < 0 || chain >= chains || from < 0 || from > top || to < 0 || to > top {
			isNoChain(t, chain, from, to)
		} else {
			isAdvanced(t, chain, from, to, a)
		}
		public := isPublic(t, seed)
		p, q := isSigned(t, seed, a), isSigned(t, seed, other)
		if isRecovered(t, a, p) != public || !areSame(t, a, other, p, q) {
			t.Fatalf("P9.6: the signatures of %x and %x have different keys", a, other)
		}
		if a != other {
			isApart(t, a, other)
			isRejected(t, public, other, p)
		}
		if len(signature) != whole {
			isRefused(t, a, signature)
			return
		}
		isVerified(t, isRecovered(t, a, signature), a, signature)
		isVerified(t, public, a, signature)
		areSame(t, a, other, signature, q)
		areSame(t, other, a, signature, signature)
	})
}
