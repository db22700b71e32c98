package shamir_test

import (
	"crypto/hmac"
	"crypto/sha256"
	"encoding/hex"
	"fmt"
	"math"
	"math/big"
	"math/rand"
	"slices"
	"strings"
	"sync"
	"testing"
	"unsafe"

	"custody/api"
	"custody/shamir"
)

const (
	longest   = 64  // the most bytes of a secret
	most      = 255 // the most shares, and the greatest index
	keepers   = 16  // the most shares of a split, and the greatest Need
	seedBytes = 32
)

// badIndices are indices that no share has.
var badIndices = []int{0, -1, -255, -256, 256, 257, 511, 512, 1 << 32, 1<<32 + 1, math.MinInt, math.MinInt + 1, math.MaxInt}

// text returns n random bytes, always the same ones.
func text(n int) string {
	return string(anyBytes(rand.New(rand.NewSource(int64(n))), n))
}

// anyBytes returns n random bytes.
func anyBytes(r *rand.Rand, n int) []byte {
	b := make([]byte, n)
	r.Read(b)
	return b
}

// count returns n bytes, each one more than the one before it, which another implementation can make, too.
func count(n int) string {
	b := make([]byte, n)
	for i := range b {
		b[i] = byte(i)
	}
	return string(b)
}

// zeros returns n bytes that are 0.
func zeros(n int) string { return strings.Repeat("\x00", n) }

// table has the product of each two elements: of two polynomials over the field with two elements, modulo 11d.
var table = func() (t [256][256]byte) {
	for a := range 256 {
		for b := range 256 {
			product := 0
			for i := range 8 {
				product ^= a * (b >> i & 1) << i
			}
			for i := 14; i >= 8; i-- {
				product ^= 0x11d * (product >> i & 1) << (i - 8)
			}
			t[a][b] = byte(product)
		}
	}
	return t
}()

// inverses has the inverse of each element but 0.
var inverses = func() (l [256]byte) {
	for a := 1; a < 256; a++ {
		l[a] = byte(slices.Index(table[a][:], 1))
	}
	return l
}()

// at returns the value at x of the polynomial through points, with the formula of Lagrange.
func at(xs, ys []byte, x byte) byte {
	sum := byte(0)
	for i := range xs {
		term := ys[i]
		for j := range xs {
			if j != i {
				term = table[table[term][x^xs[j]]][inverses[xs[i]^xs[j]]]
			}
		}
		sum ^= term
	}
	return sum
}

// dataAt returns what the polynomials through all of some shares are at x.
func dataAt(l []api.Share, x int) string {
	var data []byte
	for i := range len(l[0].Data) {
		var xs, ys []byte
		for _, s := range l {
			xs, ys = append(xs, byte(s.Index)), append(ys, s.Data[i])
		}
		data = append(data, at(xs, ys, byte(x)))
	}
	return string(data)
}

// prefixed is wire.Bytes of a text.
func prefixed(s string) string {
	digits := big.NewInt(int64(len(s))).Bytes()
	return string([]byte{byte(128 + len(digits))}) + string(digits) + s
}

// derived is kdf.Derive without parts.
func derived(key, label string) string {
	h := hmac.New(sha256.New, []byte(key))
	h.Write([]byte(prefixed(label)))
	return string(h.Sum(nil))
}

// stream returns the first n bytes of the outputs of kdf.Random.
func stream(seed string, n int) string {
	s := ""
	for len(s) < n {
		s, seed = s+derived(seed, "value"), derived(seed, "seed")
	}
	return s[:n]
}

// setOf returns the Set of the shares of a secret.
func setOf(secret, seed string) api.Digest {
	sum := sha256.Sum256([]byte("\x03" + prefixed(secret) + prefixed(seed)))
	return api.Digest(sum[:api.DigestSize])
}

// split is P7.1 for arguments without errors.
func split(secret string, need, n int, seed string) []api.Share {
	bytes := stream(seed, len(secret)*(need-1))
	var l []api.Share
	for index := 1; index <= n; index++ {
		var data []byte
		for i := range len(secret) {
			sum, power := secret[i], byte(1)
			for j := 1; j < need; j++ {
				power = table[power][index]
				sum ^= table[bytes[i*(need-1)+j-1]][power]
			}
			data = append(data, sum)
		}
		l = append(l, api.Share{Set: setOf(secret, seed), Need: need, Index: index, Data: string(data)})
	}
	return l
}

// checked is P7.2.
func checked(l []api.Share) api.Errno {
	if len(l) == 0 || len(l) > most {
		return api.ErrArg
	}
	seen := map[int]bool{}
	for _, s := range l {
		seen[s.Index] = true
		if s.Set != l[0].Set || s.Need != l[0].Need || len(s.Data) != len(l[0].Data) {
			return api.ErrArg
		}
		if s.Need < 1 || s.Need > keepers || len(s.Data) < 1 || len(s.Data) > longest || s.Index < 1 || s.Index > most {
			return api.ErrArg
		}
	}
	if len(seen) != len(l) {
		return api.ErrArg
	}
	if len(l) < l[0].Need {
		return api.ErrQuorum
	}
	for _, s := range l {
		if s.Data != dataAt(l[:s.Need], s.Index) {
			return api.ErrCorrupt
		}
	}
	return api.OK
}

// isSplit checks a split against P7.1, and returns the shares.
func isSplit(t *testing.T, secret string, need, n int, seed string) []api.Share {
	t.Helper()
	got, e := shamir.Split(secret, need, n, seed)
	if e != api.OK || len(got) != n {
		t.Fatalf("P7.1: Split of %d bytes with %d of %d has %d shares, error %d", len(secret), need, n, len(got), e)
	}
	for i, want := range split(secret, need, n, seed) {
		if got[i] != want {
			t.Fatalf("P7.1: share %d of Split(%x, %d, %d, %x) is %x, not %x", i, secret, need, n, seed, got[i], want)
		}
	}
	return got
}

// isNoSplit checks that a split is refused.
func isNoSplit(t *testing.T, secret string, need, n int, seed string) {
	t.Helper()
	if l, e := shamir.Split(secret, need, n, seed); len(l) != 0 || e != api.ErrArg {
		t.Errorf("P7.1: Split of %d bytes with %d of %d and a seed of %d bytes has %d shares, error %d", len(secret), need, n, len(seed), len(l), e)
	}
}

// isJoined checks that shares are accepted and combined to a secret.
func isJoined(t *testing.T, l []api.Share, secret string) {
	t.Helper()
	if e := shamir.Check(l); e != api.OK {
		t.Fatalf("P7.2: Check of %s is %d", brief(l), e)
	}
	if s, e := shamir.Combine(l); s != secret || e != api.OK {
		t.Fatalf("P7.3: Combine of %s is %x, not %x, error %d", brief(l), s, secret, e)
	}
}

// isExtended checks that shares are extended by one with an index and Data.
func isExtended(t *testing.T, l []api.Share, index int, data string) api.Share {
	t.Helper()
	want := api.Share{Set: l[0].Set, Need: l[0].Need, Index: index, Data: data}
	got, e := shamir.Extend(l, index)
	if got != want || e != api.OK {
		t.Fatalf("P7.4: Extend of %s to the index %d is %x, not %x, error %d", brief(l), index, got, want, e)
	}
	return got
}

// brief prints shares, or the first of them.
func brief(l []api.Share) string {
	return fmt.Sprintf("%d shares %.400s", len(l), fmt.Sprintf("%x", l[:min(len(l), 20)]))
}

// isRefused checks that all functions return an error for shares, and nothing else, also for an index that has an error itself.
func isRefused(t *testing.T, l []api.Share, want api.Errno) {
	t.Helper()
	if e := shamir.Check(l); e != want {
		t.Fatalf("P7.2: Check of %s is %d, not %d", brief(l), e, want)
	}
	if s, e := shamir.Combine(l); s != "" || e != want {
		t.Fatalf("P7.3: Combine of %s is %x, error %d, not %d", brief(l), s, e, want)
	}
	for _, index := range []int{1, 9, most, 0, -1, most + 1} {
		if s, e := shamir.Extend(l, index); s != (api.Share{}) || e != want {
			t.Fatalf("P7.4: Extend of %s to the index %d is %x, error %d, not %d", brief(l), index, s, e, want)
		}
	}
}

// isPromised checks all functions against P7.2 to P7.4, whatever the shares are.
func isPromised(t *testing.T, l []api.Share, index int) {
	t.Helper()
	if e := checked(l); e != api.OK {
		isRefused(t, l, e)
		return
	}
	some := l[:l[0].Need]
	isJoined(t, l, dataAt(some, 0))
	if index >= 1 && index <= most {
		isExtended(t, l, index, dataAt(some, index))
	} else if s, e := shamir.Extend(l, index); s != (api.Share{}) || e != api.ErrArg {
		t.Fatalf("P7.4: Extend of %s to the index %d is %x, error %d", brief(l), index, s, e)
	}
}

// changed returns a copy of shares in which one is changed.
func changed(l []api.Share, i int, change func(s *api.Share)) []api.Share {
	l = slices.Clone(l)
	change(&l[i])
	return l
}

// all returns a copy of shares in which each is changed.
func all(l []api.Share, change func(s *api.Share)) []api.Share {
	l = slices.Clone(l)
	for i := range l {
		change(&l[i])
	}
	return l
}

// flip returns a text of which one byte is changed.
func flip(s string, i int, by byte) string {
	b := []byte(s)
	b[i] ^= by
	return string(b)
}

// in returns some of the shares, in an order.
func in(order []int, l []api.Share) []api.Share {
	var some []api.Share
	for _, i := range order {
		some = append(some, l[i])
	}
	return some
}

// isHex checks bytes, or the hash of many, against what another implementation computes.
func isHex(t *testing.T, promise, name, got, want string) {
	t.Helper()
	if sum := sha256.Sum256([]byte(got)); len(got) >= longest {
		got = string(sum[:])
	}
	if h := hex.EncodeToString([]byte(got)); h != want {
		t.Errorf("%s: %s is %s, not %s", promise, name, h, want)
	}
}

// TestSplitKnown checks the chapter's examples, and splits of another implementation.
func TestSplitKnown(t *testing.T) {
	s := strings.Repeat("s", seedBytes)
	for _, x := range []struct {
		secret         string
		need, n        int
		seed, set, all string
	}{
		{"s", 1, 3, s, "3dd700e62f713f4bc9f674dbaa7c827a", "737373"},
		{"secret", 2, 3, s, "0747000c3e78dd5b637c46aa7cda28d1", "def9ce36fb29344024fa44ce99dc89beda93"},
		{"ab", 3, 4, s, "e975f7a4e50982d46f643333f79bfd3e", "508b6c285dc1dad8"},
		{"\x00", 2, 2, zeros(32), "d539ba4046eacb4bf26dd377be212386", "0306"},
		{zeros(16), 3, 3, count(32), "4599a55de02c42031385ad252ad2505e", "9c25b2516ad82041b530903b8e231fd63ce32b1c47daabec9ed3f7240fc1a10ea0c6994d2d028bad2be3671f81e2bed8"},
		{count(16), 3, 4, count(32), "87b7656dce25cd6dfb4c5a9b1953ea60", "42e0e3ae29f7ef4a119046c3dcc8139ca5bf5229f1d138786ec74328e14f3e6d"},
		{count(63), 2, 5, count(32), "8a84f956ab003089c25649df2ea2b584", "5e6761eeacb41a0ed1f4e0f6415672b77588e204ff5b0ab9eb6e92d260db95ba"},
		{count(64), 16, 16, count(32), "1f18ac5ecc3fa36eb4c5967a3a4ed19f", "208ea9ca50a1347b4a9ae5bcdd7884764db634f75975c78fe8e880a751efeb5a"},
		{"\xff", 16, 16, strings.Repeat("\xff", 32), "33448517890bb144673ef69e14787d72", "959539936a9519f128cf68d3c27e8ba6"},
	} {
		data := ""
		for _, share := range isSplit(t, x.secret, x.need, x.n, x.seed) {
			data += share.Data
			isHex(t, "P7.1", "a Set", string(share.Set[:]), x.set)
		}
		isHex(t, "P7.1", "the Data of all shares", data, x.all)
	}
}

// TestExamples checks the chapter's examples for Combine.
func TestExamples(t *testing.T) {
	l := isSplit(t, "secret", 2, 3, text(32))
	isJoined(t, []api.Share{l[0], l[2]}, "secret")
	isRefused(t, l[:1], api.ErrQuorum)
	isRefused(t, nil, api.ErrArg)
}

// TestSplit compares splits with P7.1: all numbers of shares, and secrets of the least, the greatest and other lengths.
func TestSplit(t *testing.T) {
	r := rand.New(rand.NewSource(1))
	for n := 1; n <= keepers; n++ {
		for need := 1; need <= n; need++ {
			for _, size := range []int{1, 2, 7, 63, longest} {
				secret := string(anyBytes(r, size))
				isJoined(t, isSplit(t, secret, need, n, string(anyBytes(r, seedBytes))), secret)
			}
		}
	}
	for size := 1; size <= longest; size++ {
		isSplit(t, text(size), 3, 5, text(32))
	}
}

// TestSplitFields checks what each field of a share is, one by one.
func TestSplitFields(t *testing.T) {
	secret, seed := text(20), text(32)
	for _, need := range []int{1, 2, 5, 16} {
		l := isSplit(t, secret, need, 16, seed)
		for i, s := range l {
			if s.Set != setOf(secret, seed) || s.Need != need || s.Index != i+1 || len(s.Data) != len(secret) {
				t.Errorf("P7.1: share %d is %x", i, s)
			}
		}
	}
}

// TestSplitZeros checks that bytes that are 0 are shared like all others: in the secret, and in the seed.
func TestSplitZeros(t *testing.T) {
	for _, secret := range []string{zeros(1), zeros(2), zeros(63), zeros(64), "\x00a", "a\x00", "\x00a\x00b\x00", strings.Repeat("\xff", 64)} {
		for _, seed := range []string{zeros(32), text(32), strings.Repeat("\xff", 32)} {
			for _, need := range []int{1, 2, 3, 16} {
				isJoined(t, isSplit(t, secret, need, 16, seed), secret)
			}
		}
	}
}

// TestZeroShares checks that shares whose Data is 0 are those of a secret that is 0, and that one of them that is not is found.
func TestZeroShares(t *testing.T) {
	for need := 1; need <= keepers; need++ {
		var l []api.Share
		for i := range need + 1 {
			l = append(l, api.Share{Need: need, Index: most - 3*i, Data: zeros(3)})
		}
		isJoined(t, l[:need], zeros(3))
		isJoined(t, l, zeros(3))
		isExtended(t, l, 7, zeros(3))
		for i := range l {
			isRefused(t, changed(l, i, func(s *api.Share) { s.Data = "\x00\x00\x01" }), api.ErrCorrupt)
		}
	}
}

// TestSplitOne checks that with a Need of 1 each share is the secret.
func TestSplitOne(t *testing.T) {
	for size := 1; size <= longest; size++ {
		for n := 1; n <= keepers; n += 5 {
			for i, s := range isSplit(t, text(size), 1, n, text(32)) {
				if s.Data != text(size) {
					t.Fatalf("P7.1: share %d of a secret of %d bytes with the Need 1 is %x", i, size, s.Data)
				}
				isJoined(t, []api.Share{s}, text(size))
			}
		}
	}
}

// coefficients returns the coefficients of the polynomial of byte i. The one of the degree k is the sum of x^(255-k) * p(x) over all x other than 0, because all x^255 are 1, and the x^m add up to 0 for the other m that occur.
func coefficients(l []api.Share, i int) []byte {
	var c []byte
	for k := range l[0].Need {
		sum := byte(0)
		for x := 1; x < 256; x++ {
			term := dataAt(l, x)[i]
			for range 255 - k {
				term = table[term][x]
			}
			sum ^= term
		}
		c = append(c, sum)
	}
	return c
}

// TestSplitStream checks the coefficients of polynomials: those of one byte after those of the byte before it, from a stream that ends with an output of the generator, and within one.
func TestSplitStream(t *testing.T) {
	seed := text(32)
	for _, x := range []struct{ size, need int }{{1, 1}, {1, 2}, {2, 3}, {16, 3}, {8, 5}, {31, 2}, {32, 2}, {33, 2}, {4, 9}, {2, 16}, {63, 2}, {64, 2}, {5, 8}} {
		secret, bytes := text(x.size), stream(seed, x.size*(x.need-1))
		l := isSplit(t, secret, x.need, x.need, seed)
		for _, i := range []int{0, x.size / 2, x.size - 1} {
			want := secret[i:i+1] + bytes[i*(x.need-1):(i+1)*(x.need-1)]
			if got := string(coefficients(l, i)); got != want {
				t.Errorf("P7.1: with the Need %d the polynomial of byte %d of %d is %x, not %x", x.need, i, x.size, got, want)
			}
		}
	}
	for _, x := range []struct{ size, need int }{{64, 16}, {63, 16}, {64, 15}, {32, 16}, {31, 16}, {64, 8}} {
		isSplit(t, text(x.size), x.need, x.need, seed)
	}
}

// TestSplitMore checks that more shares of a secret begin with the same ones, and that its Set is the same whatever the numbers are.
func TestSplitMore(t *testing.T) {
	secret, seed := text(40), text(32)
	for need := 1; need <= keepers; need++ {
		most := isSplit(t, secret, need, keepers, seed)
		for n := need; n < keepers; n++ {
			if l := isSplit(t, secret, need, n, seed); !slices.Equal(l, most[:n]) {
				t.Errorf("P7.1: with the Need %d the shares for %d differ from those for 16", need, n)
			}
		}
		if most[0].Set != setOf(secret, seed) {
			t.Errorf("P7.1: with the Need %d the Set is %x", need, most[0].Set)
		}
	}
}

// TestSplitSeed checks that each bit of the seed and of the secret changes the Set, and the Data of shares.
func TestSplitSeed(t *testing.T) {
	secret, seed := text(8), text(32)
	sets, data := map[api.Digest]bool{}, map[string]bool{}
	add := func(secret, seed string) {
		t.Helper()
		s := isSplit(t, secret, 2, 2, seed)[1]
		if sets[s.Set] || data[s.Data] {
			t.Errorf("P7.1: a Set or Data occurs twice")
		}
		sets[s.Set], data[s.Data] = true, true
	}
	add(secret, seed)
	for bit := range 8 * len(seed) {
		add(secret, flip(seed, bit/8, 1<<(bit%8)))
	}
	for bit := range 8 * len(secret) {
		add(flip(secret, bit/8, 1<<(bit%8)), seed)
	}
}

// TestSplitRefused checks each error of a split by itself, and all of them together.
func TestSplitRefused(t *testing.T) {
	seed := text(32)
	for _, size := range []int{0, 65, 66, 96, 128, 255, 256, 257, 320, 65536 + 32} {
		for _, need := range []int{1, 2, 16} {
			isNoSplit(t, text(size), need, 16, seed)
		}
	}
	for _, n := range []int{0, -1, -16, 17, 18, 255, 256, 257, 1 << 32, 1<<32 + 3, math.MinInt, math.MaxInt} {
		for _, need := range []int{1, 2, 16, 0, n, n - 1, -n} {
			isNoSplit(t, "secret", need, n, seed)
		}
	}
	for n := 1; n <= keepers; n++ {
		for _, need := range []int{0, -1, -n, n + 1, n + 2, 17, 255, 256, 257, 256 + n, 1<<32 + 1, math.MinInt, math.MinInt + 1, math.MaxInt} {
			isNoSplit(t, "secret", need, n, seed)
		}
		isNoSplit(t, "secret", n, n-1, seed)
	}
	for _, size := range []int{0, 1, 16, 31, 33, 63, 64, 65, 256 + 32, 1 << 16} {
		isNoSplit(t, "secret", 1, 1, text(size))
		isNoSplit(t, "secret", 2, 3, text(size))
		isNoSplit(t, "", 0, 17, text(size))
	}
	isNoSplit(t, "", 1, 1, seed)
	isNoSplit(t, "", 2, 1, seed)
	isNoSplit(t, text(65), 0, 0, seed[1:])
}

// extended returns the shares of a split with the indices from 1 to n, of which those above 16 are computed here.
func extended(secret string, need, n int, seed string) []api.Share {
	l := split(secret, need, min(n, keepers), seed)
	for index := keepers + 1; index <= n; index++ {
		l = append(l, api.Share{Set: l[0].Set, Need: need, Index: index, Data: dataAt(l[:need], index)})
	}
	return l
}

// TestNumber checks lists of all sorts of lengths: none, fewer than Need, Need, more, and 255 shares; 256 are refused.
func TestNumber(t *testing.T) {
	isRefused(t, nil, api.ErrArg)
	isRefused(t, []api.Share{}, api.ErrArg)
	for _, need := range []int{1, 2, 3, 8, 15, 16} {
		l := extended("secret", need, most, text(32))
		isRefused(t, l[:0], api.ErrArg)
		for n := 1; n <= most; n++ {
			if n > need+2 && n < most-2 && n%50 != 0 {
				continue
			}
			if n < need {
				isRefused(t, l[:n], api.ErrQuorum)
				isRefused(t, l[most-n:], api.ErrQuorum)
				continue
			}
			isJoined(t, l[:n], "secret")
			isJoined(t, l[most-n:], "secret")
		}
		for _, index := range []int{0, 1, 7, 255, 256, -1} {
			more := append(slices.Clone(l), api.Share{Set: l[0].Set, Need: need, Index: index, Data: "secret"})
			isRefused(t, more, api.ErrArg)
			isRefused(t, append(more, more...), api.ErrArg)
		}
		isRefused(t, append(slices.Clone(l), l[0]), api.ErrArg)
	}
}

// TestBelong checks each error of a single share by itself, in the first share and in each later one.
func TestBelong(t *testing.T) {
	for _, need := range []int{1, 3, 5} {
		l := split("secret", need, 5, text(32))
		isJoined(t, l, "secret")
		for i := range l {
			for k := range api.DigestSize {
				isRefused(t, changed(l, i, func(s *api.Share) { s.Set[k] ^= 1 << (k % 8) }), api.ErrArg)
			}
			isRefused(t, changed(l, i, func(s *api.Share) { s.Set = api.Digest{} }), api.ErrArg)
			for _, other := range []int{need + 1, need - 1, need + 256, -need, 0, 1 << 32, 16, 17, math.MinInt, math.MaxInt} {
				isRefused(t, changed(l, i, func(s *api.Share) { s.Need = other }), api.ErrArg)
			}
			for _, data := range []string{"", "s", "secre", "secrets", l[i].Data[1:], l[i].Data + "\x00", text(64), text(65), l[i].Data + text(256)} {
				isRefused(t, changed(l, i, func(s *api.Share) { s.Data = data }), api.ErrArg)
			}
			for _, index := range append([]int{l[i].Index + 256, l[i].Index - 256, -l[i].Index}, badIndices...) {
				isRefused(t, changed(l, i, func(s *api.Share) { s.Index = index }), api.ErrArg)
			}
		}
	}
}

// TestNeed checks the Need that all shares have: from 1 to 16 are accepted, and no others.
func TestNeed(t *testing.T) {
	for need := 1; need <= keepers; need++ {
		l := extended("secret", need, 20, text(32))
		isJoined(t, l, "secret")
		for _, other := range []int{0, -1, -need, 17, 18, 255, 256, 256 + need, 1<<32 + need, math.MinInt, math.MaxInt} {
			for _, n := range []int{1, 2, need, 20} {
				isRefused(t, all(l[:n], func(s *api.Share) { s.Need = other }), api.ErrArg)
			}
		}
	}
	one := []api.Share{{Need: 1, Index: 1, Data: "x"}}
	isJoined(t, one, "x")
	for need := 2; need <= keepers; need++ {
		isRefused(t, all(one, func(s *api.Share) { s.Need = need }), api.ErrQuorum)
	}
}

// TestData checks the number of bytes that the Data of all shares has: from 1 to 64 are accepted, and no others.
func TestData(t *testing.T) {
	l := split("s", 2, 3, text(32))
	for size := 1; size <= longest; size++ {
		secret := text(size)
		isJoined(t, split(secret, 2, 3, text(32)), secret)
		isJoined(t, split(secret, 1, 3, text(32)), secret)
		isJoined(t, split(secret, 16, 16, text(32)), secret)
	}
	for _, size := range []int{0, 65, 66, 128, 255, 256, 257, 320, 65536 + 1} {
		for _, n := range []int{1, 2, 3} {
			isRefused(t, all(l[:n], func(s *api.Share) { s.Data = text(size) }), api.ErrArg)
			isRefused(t, all(l[:n], func(s *api.Share) { s.Data, s.Need = text(size), 1 }), api.ErrArg)
		}
	}
}

// TestIndex checks that each index from 1 to 255 is accepted and no other one, alone and among others.
func TestIndex(t *testing.T) {
	for index := 1; index <= most; index++ {
		isJoined(t, []api.Share{{Need: 1, Index: index, Data: "one"}}, "one")
	}
	l := extended("secret", 2, most, text(32))
	for index := 2; index <= most; index++ {
		isJoined(t, []api.Share{l[0], l[index-1]}, "secret")
		isJoined(t, []api.Share{l[index-1], l[0]}, "secret")
	}
	for _, index := range badIndices {
		isRefused(t, []api.Share{{Need: 1, Index: index, Data: "one"}}, api.ErrArg)
		isRefused(t, []api.Share{{Need: 2, Index: index, Data: "one"}}, api.ErrArg)
		isRefused(t, []api.Share{{Need: 2, Index: index, Data: "one"}, {Need: 2, Index: 5, Data: "two"}}, api.ErrArg)
		isRefused(t, []api.Share{{Need: 2, Index: 5, Data: "one"}, {Need: 2, Index: index, Data: "two"}}, api.ErrArg)
	}
}

// TestTwice checks that an index that occurs twice is refused, next to each other and apart, among the first Need shares and after them, with the same Data and with other.
func TestTwice(t *testing.T) {
	for _, need := range []int{1, 2, 4, 7} {
		l := extended("secret", need, 7, text(32))
		for i := range l {
			for j := range l {
				if i != j {
					isRefused(t, changed(l, i, func(s *api.Share) { s.Index = l[j].Index }), api.ErrArg)
					isRefused(t, changed(l, i, func(s *api.Share) { *s = l[j] }), api.ErrArg)
				}
			}
			isRefused(t, append(slices.Clone(l), l[i]), api.ErrArg)
			isRefused(t, append([]api.Share{l[i]}, l...), api.ErrArg)
		}
		isRefused(t, []api.Share{l[0], l[0]}, api.ErrArg)
	}
	many := extended("x", 3, most, text(32))
	for _, i := range []int{0, 1, 2, 3, 100, 253} {
		isRefused(t, changed(many, 254, func(s *api.Share) { s.Index = many[i].Index }), api.ErrArg)
		isRefused(t, changed(many, i, func(s *api.Share) { s.Index = 255 }), api.ErrArg)
	}
}

// faults are the changes that make ErrArg of shares, each in a way of its own.
func faults() map[string]func(s *api.Share) {
	return map[string]func(s *api.Share){
		"Set":   func(s *api.Share) { s.Set[15] ^= 128 },
		"Need":  func(s *api.Share) { s.Need-- },
		"Index": func(s *api.Share) { s.Index = 0 },
		"large": func(s *api.Share) { s.Index += 256 },
		"twice": func(s *api.Share) { s.Index = 3 },
		"short": func(s *api.Share) { s.Data = s.Data[1:] },
		"long":  func(s *api.Share) { s.Data += "x" },
		"empty": func(s *api.Share) { s.Data = "" },
	}
}

// TestOrder checks two errors at once: ErrArg is returned before ErrQuorum and ErrCorrupt, wherever the share is that has it.
func TestOrder(t *testing.T) {
	corrupt := func(s *api.Share) { s.Data = flip(s.Data, 0, 1) }
	l := split("secret", 4, 8, text(32))
	for name, fault := range faults() {
		for i := range l {
			if name == "twice" && i == 2 {
				continue
			}
			isRefused(t, changed(l, i, fault), api.ErrArg)
			for j := range l {
				if j != i {
					isRefused(t, changed(changed(l, i, fault), j, corrupt), api.ErrArg)
				}
			}
		}
		for i := range 3 {
			if name != "twice" || i != 2 {
				isRefused(t, changed(l[:3], i, fault), api.ErrArg)
			}
		}
	}
	for _, bad := range []func(s *api.Share){
		func(s *api.Share) { s.Need = 17 },
		func(s *api.Share) { s.Data = "" },
		func(s *api.Share) { s.Data = text(65) },
	} {
		isRefused(t, all(l[:3], bad), api.ErrArg)
		isRefused(t, changed(all(l, bad), 5, func(s *api.Share) { s.Index = 200 }), api.ErrArg)
	}
	// Of fewer shares than Need none is wrong, whatever their Data is.
	isRefused(t, changed(l[:3], 1, corrupt), api.ErrQuorum)
	isRefused(t, l[:3], api.ErrQuorum)
	isRefused(t, changed(l, 1, corrupt), api.ErrCorrupt)
}

// TestCorrupt checks that the first Need shares say what is right: a change in a later one is found, as is one in themselves, but not if there are no others.
func TestCorrupt(t *testing.T) {
	for _, x := range []struct{ need, n int }{{1, 2}, {1, 4}, {2, 3}, {2, 6}, {3, 4}, {5, 9}, {15, 16}, {16, 17}, {16, 30}} {
		l := extended(text(9), x.need, x.n, text(32))
		isJoined(t, l, text(9))
		for i := range l {
			for _, k := range []int{0, 4, 8} {
				isRefused(t, changed(l, i, func(s *api.Share) { s.Data = flip(s.Data, k, 1) }), api.ErrCorrupt)
				isRefused(t, changed(l, i, func(s *api.Share) { s.Data = flip(s.Data, k, s.Data[k]|byte(64*(k%4))) }), api.ErrCorrupt)
			}
		}
		for i := range x.need {
			some := changed(l[:x.need], i, func(s *api.Share) { s.Data = flip(s.Data, 4, 9) })
			isJoined(t, some, dataAt(some, 0))
			if dataAt(some, 0) == text(9) {
				t.Errorf("P7.3: with the Need %d a changed share makes no difference", x.need)
			}
		}
	}
}

// TestLast checks that in a long list the last share is looked at, too, and its last byte.
func TestLast(t *testing.T) {
	l := extended(text(longest), 16, most, text(32))
	isJoined(t, l, text(longest))
	for _, i := range []int{0, 15, 16, 17, 128, 253, 254} {
		for _, k := range []int{0, 31, 63} {
			isRefused(t, changed(l, i, func(s *api.Share) { s.Data = flip(s.Data, k, 128) }), api.ErrCorrupt)
		}
	}
}

// TestAnyLists compares Check, Combine and Extend with P7.2 to P7.4 for random shares that were never made by a split, some of them with an error or with two.
func TestAnyLists(t *testing.T) {
	r := rand.New(rand.NewSource(3))
	var kinds [24]int
	for range 20000 {
		need, size := 1+r.Intn(4), 1+r.Intn(3)
		n := need + r.Intn(3)
		var l []api.Share
		for _, i := range r.Perm(most)[:n] {
			l = append(l, api.Share{Set: api.Digest{7}, Need: need, Index: i + 1, Data: string(anyBytes(r, size))})
		}
		if r.Intn(2) == 0 {
			for i := need; i < n; i++ {
				l[i].Data = dataAt(l[:need], l[i].Index)
			}
		}
		for range r.Intn(3) {
			s := &l[r.Intn(len(l))]
			switch r.Intn(7) {
			case 0:
				s.Set[r.Intn(16)] ^= 1
			case 1:
				s.Need += r.Intn(3) - 1
			case 2:
				s.Index = r.Intn(300) - 20
			case 3:
				s.Index = l[r.Intn(len(l))].Index
			case 4:
				s.Data += text(r.Intn(2))
			case 5:
				l = all(l, func(s *api.Share) { s.Need++ })
			case 6:
				l = l[:1+r.Intn(len(l))]
			}
		}
		kinds[checked(l)]++
		isPromised(t, l, r.Intn(300)-20)
	}
	for _, e := range []api.Errno{api.OK, api.ErrArg, api.ErrQuorum, api.ErrCorrupt} {
		if kinds[e] < 1000 {
			t.Errorf("P7.2: of the random lists only %d have the error %d", kinds[e], e)
		}
	}
}

// TestJoinedKnown checks what another implementation makes of shares that are not those of a split.
func TestJoinedKnown(t *testing.T) {
	var four, many []api.Share
	for i, index := range []int{100, 3, 77, 128} {
		var data []byte
		for j := range 5 {
			data = append(data, byte(i*i+7*j))
		}
		four = append(four, api.Share{Need: 4, Index: index, Data: string(data)})
	}
	for i := range 16 {
		var data []byte
		for j := range 64 {
			data = append(data, byte((i*i+3*i*j+j)%251))
		}
		many = append(many, api.Share{Need: 16, Index: (37*i + 200) % 256, Data: string(data)})
	}
	for _, x := range []struct {
		l    []api.Share
		want [5]string // the values at 0, 1, 2, 16 and 255
	}{
		{[]api.Share{{Need: 1, Index: 200, Data: "only"}}, [5]string{"6f6e6c79", "6f6e6c79", "6f6e6c79", "6f6e6c79", "6f6e6c79"}},
		{[]api.Share{{Need: 2, Index: 255, Data: "left"}, {Need: 2, Index: 1, Data: "rite"}}, [5]string{"0f5b3ba8", "72697465", "f53fa52f", "8c5cbfe4", "6c656674"}},
		{[]api.Share{{Need: 3, Index: 7, Data: zeros(3)}, {Need: 3, Index: 9, Data: "abc"}, {Need: 3, Index: 254, Data: "\xff\x00\x80"}}, [5]string{"b64aa6", "24a6b4", "4812aa", "ab4bc7", "6dec92"}},
		{four, [5]string{"615813146d", "20763fd0d7", "339a9b74cf", "38aacc16e9", "35a3187d54"}},
		{many, [5]string{"874fdae796ed09f8cc5084c2981b57efd3126d4358b45854723368eccf4f4380", "1eab94264960ceb75c6c9e868b6790dcfc3e12a1f33b7bf3435798aad972c7e5", "e8ed656c5df0e63c7624b992fafe6c4db4b62e5025bb46c12819f4135b9d1408", "3dcd23c30d056ca5ad9bbfedfe843a678ddaf3d444b91e9dc6e7c64204323f75", "03fecb7ff2ac225ad1b43d853cb5a1db795cef014f2af6d69b34d379f5753092"}},
	} {
		s, e := shamir.Combine(x.l)
		if e != api.OK {
			t.Fatalf("P7.3: Combine of %d shares has the error %d", len(x.l), e)
		}
		values := []string{s}
		for _, index := range []int{1, 2, 16, 255} {
			s, e := shamir.Extend(x.l, index)
			if e != api.OK {
				t.Fatalf("P7.4: Extend of %d shares has the error %d", len(x.l), e)
			}
			values = append(values, s.Data)
		}
		for i, value := range values {
			isHex(t, "P7.4", "a value", value, x.want[i])
		}
	}
}

// TestExtend checks the share with each index: the one at hand if there is one, also beyond Need, and a new one otherwise; and that no other index is accepted.
func TestExtend(t *testing.T) {
	for _, need := range []int{1, 2, 3, 9, 16} {
		l := extended(text(5), need, most, text(32))
		for _, some := range [][]api.Share{l[:need], l[:need+3], l[40 : 40+need], l[most-need:]} {
			for index := 1; index <= most; index++ {
				isExtended(t, some, index, l[index-1].Data)
			}
			for _, index := range badIndices {
				if s, e := shamir.Extend(some, index); s != (api.Share{}) || e != api.ErrArg {
					t.Errorf("P7.4: Extend of %d shares to the index %d is %x, error %d", len(some), index, s, e)
				}
			}
		}
	}
}

// TestExtendOrder checks that an error of the shares is returned before that of the index.
func TestExtendOrder(t *testing.T) {
	l := split("secret", 2, 3, text(32))
	for _, index := range append([]int{1, 3, 4, 255}, badIndices...) {
		for _, x := range []struct {
			l    []api.Share
			want api.Errno
		}{
			{nil, api.ErrArg},
			{l[:1], api.ErrQuorum},
			{changed(l, 2, func(s *api.Share) { s.Data = "secret" }), api.ErrCorrupt},
			{changed(l, 2, func(s *api.Share) { s.Need = 3 }), api.ErrArg},
		} {
			if s, e := shamir.Extend(x.l, index); s != (api.Share{}) || e != x.want {
				t.Errorf("P7.4: Extend of %s to the index %d is %x, error %d, not %d", brief(x.l), index, s, e, x.want)
			}
		}
	}
}

// lists returns all lists of different numbers below n, in all orders.
func lists(n int) [][]int {
	l := [][]int{nil}
	for i := 0; i < len(l); i++ {
		for k := range n {
			if !slices.Contains(l[i], k) {
				l = append(l, append(slices.Clone(l[i]), k))
			}
		}
	}
	return l
}

// TestAnyShares checks that any Need shares of a split, and any more, in all orders, are combined to the secret, and fewer are not (P7.5).
func TestAnyShares(t *testing.T) {
	for n := 1; n <= 5; n++ {
		for need := 1; need <= n; need++ {
			l := isSplit(t, "a secret", need, n, text(32))
			for _, order := range lists(n) {
				switch {
				case len(order) >= need:
					isJoined(t, in(order, l), "a secret")
				case len(order) > 0:
					isRefused(t, in(order, l), api.ErrQuorum)
				}
			}
		}
	}
	r := rand.New(rand.NewSource(4))
	for range 300 {
		n := 1 + r.Intn(keepers)
		need, secret := 1+r.Intn(n), string(anyBytes(r, 1+r.Intn(longest)))
		l := isSplit(t, secret, need, n, string(anyBytes(r, seedBytes)))
		isJoined(t, in(r.Perm(n)[:need+r.Intn(n-need+1)], l), secret)
	}
}

// TestExtendSplit checks that Extend of any shares of a split returns each share of it (P7.5).
func TestExtendSplit(t *testing.T) {
	r := rand.New(rand.NewSource(5))
	for n := 1; n <= keepers; n++ {
		for need := 1; need <= n; need++ {
			l := isSplit(t, text(6), need, n, text(32))
			some := in(r.Perm(n)[:need], l)
			for i := range l {
				if s, e := shamir.Extend(some, i+1); s != l[i] || e != api.OK {
					t.Fatalf("P7.5: Extend of %d of %d shares to the index %d is %x, not %x, error %d", need, n, i+1, s, l[i], e)
				}
			}
		}
	}
}

// TestExtendedJoined checks that shares that Extend made are combined to the secret, with those of the split and without them, and extended once more (P7.5).
func TestExtendedJoined(t *testing.T) {
	r := rand.New(rand.NewSource(6))
	for need := 1; need <= keepers; need++ {
		secret := text(need)
		l := isSplit(t, secret, need, keepers, text(32))
		var made []api.Share
		for _, i := range r.Perm(most - keepers)[:keepers] {
			s, e := shamir.Extend(in(r.Perm(keepers)[:need], l), keepers+1+i)
			if e != api.OK {
				t.Fatal("P7.4:", e)
			}
			made = append(made, s)
		}
		for k := range need + 1 {
			mixed := append(slices.Clone(l[:need-k]), made[:k]...)
			r.Shuffle(need, func(i, j int) { mixed[i], mixed[j] = mixed[j], mixed[i] })
			isJoined(t, mixed, secret)
			isJoined(t, append(mixed, made[k:]...), secret)
		}
		isJoined(t, append(slices.Clone(l), made...), secret)
		isJoined(t, append(slices.Clone(made), l...), secret)
		for i := range l {
			isExtended(t, made[:need], i+1, l[i].Data)
		}
	}
}

// TestEveryChange checks that every change of every byte of every share is found if there are more shares than Need (P7.6).
func TestEveryChange(t *testing.T) {
	for _, x := range []struct{ need, n int }{{1, 2}, {2, 3}, {2, 5}, {3, 4}, {4, 7}, {15, 16}} {
		l := isSplit(t, "key", x.need, x.n, text(32))
		for i := range l {
			for k := range 3 {
				for by := 1; by < 256; by++ {
					bad := changed(l, i, func(s *api.Share) { s.Data = flip(s.Data, k, byte(by)) })
					if e := shamir.Check(bad); e != api.ErrCorrupt {
						t.Fatalf("P7.6: with %d of %d shares byte %d of share %d may be %x instead of %x: %d", x.need, x.n, k, i, bad[i].Data, l[i].Data, e)
					}
				}
			}
		}
	}
}

// TestCharacters checks that every change of every byte is found in Data that is a text of characters of several bytes (P7.6).
func TestCharacters(t *testing.T) {
	secret := "\u00e9\u20ac\U00010348s\uffff"
	l := isSplit(t, secret, 1, 3, text(32))
	isJoined(t, l, secret)
	for i := range l {
		for k := range len(secret) {
			for by := 1; by < 256; by++ {
				if e := shamir.Check(changed(l, i, func(s *api.Share) { s.Data = flip(s.Data, k, byte(by)) })); e != api.ErrCorrupt {
					t.Fatalf("P7.6: byte %d of share %d may be another one: %d", k, i, e)
				}
			}
		}
	}
}

// TestEveryByte checks for all numbers of shares that a change of a byte is found, and of several bytes of one share, in any order of the shares (P7.6).
func TestEveryByte(t *testing.T) {
	r := rand.New(rand.NewSource(7))
	for n := 2; n <= keepers; n++ {
		for need := 1; need < n; need++ {
			l := isSplit(t, text(4), need, n, text(32))
			for i := range l {
				for range 4 {
					by := anyBytes(r, 4)
					bad := changed(l, i, func(s *api.Share) {
						s.Data = flip(s.Data, r.Intn(4), byte(1+r.Intn(255)))
						if r.Intn(2) == 0 {
							s.Data = string(by)
						}
					})
					isRefused(t, in(r.Perm(n), bad), api.ErrCorrupt)
					isRefused(t, in(append([]int{i}, without(r.Perm(n), i)[:need]...), bad), api.ErrCorrupt)
				}
			}
		}
	}
	for _, need := range []int{1, 8, 15} {
		l := isSplit(t, text(longest), need, keepers, text(32))
		for i := range l {
			for k := range longest {
				if e := shamir.Check(changed(l, i, func(s *api.Share) { s.Data = flip(s.Data, k, byte(1+r.Intn(255))) })); e != api.ErrCorrupt {
					t.Fatalf("P7.6: with %d of 16 shares a change of byte %d of share %d: %d", need, k, i, e)
				}
			}
		}
	}
}

// without returns a list without a number.
func without(l []int, n int) []int {
	return slices.DeleteFunc(l, func(i int) bool { return i == n })
}

// further returns the share with which others are combined to a text.
func further(l []api.Share, set api.Digest, need, index int, secret string) api.Share {
	data := dataAt(append([]api.Share{{Index: 0, Data: secret}}, l...), index)
	return api.Share{Set: set, Need: need, Index: index, Data: data}
}

// TestFewer checks that with any Need - 1 shares of a split every text is possible, also for a Need of 1, for which these are none (P7.7).
func TestFewer(t *testing.T) {
	r := rand.New(rand.NewSource(8))
	for need := 1; need <= keepers; need++ {
		for _, size := range []int{1, 2, 32, longest} {
			n := need + r.Intn(keepers-need+1)
			l := isSplit(t, text(size), need, n, text(32))
			for range 5 {
				some := in(r.Perm(n)[:need-1], l)
				if len(some) > 0 {
					isRefused(t, some, api.ErrQuorum)
				}
				for _, want := range []string{zeros(size), strings.Repeat("\xff", size), text(size), count(size), string(anyBytes(r, size))} {
					s := further(some, l[0].Set, need, 1+keepers+r.Intn(most-keepers), want)
					isJoined(t, append([]api.Share{s}, some...), want)
					isJoined(t, append(slices.Clone(some), s), want)
				}
			}
		}
	}
}

// TestFewerAll goes through all texts of one and of two bytes, and checks that each has another share with each index that is free (P7.7).
func TestFewerAll(t *testing.T) {
	for _, need := range []int{1, 2, 3, 5} {
		l := isSplit(t, "s", need, 5, text(32))
		for _, some := range [][]api.Share{l[:need-1], l[5-need+1:]} {
			for _, index := range []int{1, 2, 3, 4, 5, 6, 17, 128, 255} {
				if slices.ContainsFunc(some, func(s api.Share) bool { return s.Index == index }) {
					continue
				}
				seen := map[string]bool{}
				for b := range 256 {
					s := further(some, l[0].Set, need, index, string([]byte{byte(b)}))
					isJoined(t, append(slices.Clone(some), s), string([]byte{byte(b)}))
					seen[s.Data] = true
				}
				if len(seen) != 256 {
					t.Errorf("P7.7: with %d shares of 1 byte only %d further ones occur", need-1, len(seen))
				}
			}
		}
	}
	l := isSplit(t, "ab", 2, 2, text(32))
	for code := range 1 << 16 {
		want := string([]byte{byte(code), byte(code >> 8)})
		isJoined(t, []api.Share{l[1], further(l[1:], l[0].Set, 2, 200, want)}, want)
	}
}

// TestFewerShares goes through all further shares, and checks that each makes another text of Need - 1 shares (P7.7).
func TestFewerShares(t *testing.T) {
	for _, need := range []int{1, 2, 3, 16} {
		l := isSplit(t, "s", need, need, text(32))
		seen := map[string]bool{}
		for b := range 256 {
			s, e := shamir.Combine(changed(l, need-1, func(s *api.Share) { s.Data = string([]byte{byte(b)}) }))
			if e != api.OK {
				t.Fatal("P7.3:", e)
			}
			seen[s] = true
		}
		if len(seen) != 256 {
			t.Errorf("P7.7: %d shares restrict the secret to %d texts", need-1, len(seen))
		}
	}
}

// TestArguments checks that shares are not changed, nor those behind them, and that results do not change with them.
func TestArguments(t *testing.T) {
	for _, need := range []int{1, 2, 5, 16} {
		whole := extended(text(10), need, 30, text(32))
		whole[29].Index, whole[28].Data = 3, "wrong"
		before := slices.Clone(whole)
		for _, l := range [][]api.Share{whole[:need], whole[:20], whole[:0], whole[:need-1], whole, whole[:29], changed(whole[:20], 19, func(s *api.Share) { s.Data = text(10) })} {
			mine := slices.Clone(l)
			shamir.Check(l)
			shamir.Combine(l)
			shamir.Extend(l, 200)
			shamir.Extend(l, 0)
			if !slices.Equal(l, mine) || !slices.Equal(whole, before) {
				t.Fatalf("P7.4: of %d shares some are changed", len(l))
			}
		}
		secret, e := shamir.Combine(whole[:need])
		s, f := shamir.Extend(whole[:need], 99)
		clear(whole)
		if secret != text(10) || e != api.OK || f != api.OK || s != (api.Share{Set: before[0].Set, Need: need, Index: 99, Data: dataAt(before[:need], 99)}) {
			t.Fatalf("P7.4: the results for %d shares change with them", need)
		}
	}
}

// overlap tells whether two texts share memory. (All texts of one byte do: the language keeps these once.)
func overlap(a, b string) bool {
	x, y := uintptr(unsafe.Pointer(unsafe.StringData(a))), uintptr(unsafe.Pointer(unsafe.StringData(b)))
	return len(a) > 1 && len(b) > 1 && x < y+uintptr(len(b)) && y < x+uintptr(len(a))
}

// TestResults checks that results are new memory: the shares of a split are not those of another one, and texts share nothing with arguments or with each other.
func TestResults(t *testing.T) {
	for _, need := range []int{1, 2, 16} {
		secret, seed := text(32), text(33)[:32]
		l, other := isSplit(t, secret, need, 16, seed), isSplit(t, secret, need, 16, seed)
		whole := l[:cap(l)]
		for i := range whole {
			whole[i] = api.Share{Need: 99}
		}
		if !slices.Equal(other, split(secret, need, 16, seed)) {
			t.Fatalf("P7.1: two splits share memory")
		}
		l = isSplit(t, secret, need, 16, seed)
		texts := []string{secret, seed}
		for _, s := range append(l, other...) {
			texts = append(texts, s.Data)
		}
		combined, e := shamir.Combine(l)
		again, f := shamir.Combine(l)
		s, g := shamir.Extend(l, 1)
		far, h := shamir.Extend(l, 200)
		if e != api.OK || f != api.OK || g != api.OK || h != api.OK {
			t.Fatal("P7.4:", e, f, g, h)
		}
		texts = append(texts, combined, again, s.Data, far.Data)
		for i := range texts {
			for j := range i {
				if overlap(texts[i], texts[j]) {
					t.Errorf("P7.4: with the Need %d the texts %d and %d share memory", need, i, j)
				}
			}
		}
	}
}

// TestNoState checks that calls do not disturb each other, and that they can be repeated.
func TestNoState(t *testing.T) {
	var done sync.WaitGroup
	shared := split("shared", 3, 6, text(32))
	for i := range 8 {
		secret, seed := text(10+i), text(40 + i)[:32]
		want := split(secret, 4, 7, seed)
		done.Go(func() {
			for range 100 {
				l, e := shamir.Split(secret, 4, 7, seed)
				if e != api.OK || !slices.Equal(l, want) {
					t.Error("P7.1: a split changes while others are made")
				}
				if s, e := shamir.Combine(shared[i%4:]); s != "shared" || e != api.OK {
					t.Error("P7.3: a secret changes while others are combined")
				}
				if s, e := shamir.Extend(l[3:], 2); s != want[1] || e != api.OK {
					t.Error("P7.4: a share changes while others are made")
				}
				shamir.Check(shared[:2])
				shamir.Split("", 1, 1, seed)
			}
		})
	}
	done.Wait()
}

// TestExtreme checks that shares with numbers and texts out of all bounds are refused and do not panic (P1).
func TestExtreme(t *testing.T) {
	numbers := append([]int{1, 2, 16, 17, 255}, badIndices...)
	for _, need := range numbers {
		for _, index := range numbers {
			for _, size := range []int{0, 1, 64, 65, 1 << 20} {
				l := []api.Share{{Need: need, Index: index, Data: text(min(size, 65)) + zeros(max(size-65, 0))}}
				for range 2 {
					want := api.ErrArg
					switch bad := size < 1 || size > longest || index < 1 || index > most || len(l) > 1; {
					case !bad && need == 1:
						want = api.OK
					case !bad && need > 1 && need <= keepers:
						want = api.ErrQuorum
					}
					if e := shamir.Check(l); e != want {
						t.Errorf("P7.2: %d shares with the Need %d, the Index %d and %d bytes have the error %d, not %d", len(l), need, index, size, e, want)
					}
					shamir.Combine(l)
					for _, x := range numbers {
						shamir.Extend(l, x)
					}
					l = append(l, l...)
				}
			}
			isPromised(t, []api.Share{{Need: need, Index: index, Data: "x"}, {Need: need, Index: 9, Data: "y"}}, index)
			isPromised(t, make([]api.Share, 3), need)
		}
	}
	long := make([]api.Share, 1<<17)
	for i := range long {
		long[i] = api.Share{Need: 1, Index: i + 1, Data: "x"}
	}
	for _, n := range []int{256, 257, 511, 512, 65535, 65536, 65537, 65536 + 255, 1 << 17} {
		isRefused(t, long[:n], api.ErrArg)
		isRefused(t, make([]api.Share, n), api.ErrArg)
	}
	isJoined(t, long[:most], "x")
}

// FuzzShamir finds panics, and results that differ from the promises (P1, P7.1 to P7.7).
func FuzzShamir(f *testing.F) {
	f.Add("s", 1, 3, strings.Repeat("s", 32), uint16(0), byte(0), 1)
	f.Add("secret", 2, 3, strings.Repeat("s", 32), uint16(7), byte(1), 4)
	f.Add("", 1, 1, text(32), uint16(0), byte(9), 0)
	f.Add(text(64), 16, 16, text(32), uint16(1000), byte(255), 255)
	f.Add(text(65), 0, 17, text(31), uint16(3), byte(3), 256)
	f.Fuzz(func(t *testing.T, secret string, need, n int, seed string, place uint16, by byte, index int) {
		if len(secret) < 1 || len(secret) > longest || n < 1 || n > keepers || need < 1 || need > n || len(seed) != seedBytes {
			isNoSplit(t, secret, need, n, seed)
			isPromised(t, []api.Share{{Need: need, Index: n, Data: secret}, {Need: need, Index: index, Data: seed}}, index)
			return
		}
		l := isSplit(t, secret, need, n, seed)
		isJoined(t, l, secret)
		isJoined(t, in(rand.New(rand.NewSource(int64(place))).Perm(n)[:need], l), secret)
		isPromised(t, l, index)
		isPromised(t, changed(l, int(place)%n, func(s *api.Share) { s.Index = index }), int(by))
		bad := changed(l, int(place)%n, func(s *api.Share) { s.Data = flip(s.Data, int(place)%len(secret), by) })
		isPromised(t, bad, index)
		if e := shamir.Check(bad); by != 0 && n > need && e != api.ErrCorrupt {
			t.Errorf("P7.6: a change of share %d of %d with the Need %d: %d", int(place)%n, n, need, e)
		}
		want := (seed + seed)[:len(secret)]
		isJoined(t, append(slices.Clone(l[:need-1]), further(l[:need-1], l[0].Set, need, 255, want)), want)
	})
}
