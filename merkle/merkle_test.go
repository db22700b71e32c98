package merkle_test

import (
	"bytes"
	"crypto/sha256"
	"encoding/hex"
	"encoding/json"
	"math"
	"math/bits"
	"math/rand"
	"os"
	"os/exec"
	"path/filepath"
	"slices"
	"strconv"
	"strings"
	"sync"
	"testing"

	"custody/api"
	"custody/hash"
	"custody/merkle"
)

const (
	long = 70      // all lists up to this length are checked
	size = 1 << 32 // the greatest Size of valid peaks
)

// extremes are numbers that no list has as an index or as a length.
var extremes = []int{-1, -2, -70, -1 << 32, math.MinInt, math.MinInt + 1, 1 << 31, 1 << 32, 1<<32 + 1, 1 << 53, 1<<62 - 1, 1 << 62, 1<<62 + 1, math.MaxInt - 1, math.MaxInt}

// lengths are all short lengths, and longer ones near powers of 2.
var lengths = func() (l []int) {
	for n := range long + 1 {
		l = append(l, n)
	}
	return append(l, 127, 128, 129, 255, 256, 257, 511, 512, 513)
}()

// weak tells whether these tests were built with the weak hash of TestCollisions, of whose digests only six bits are not 0.
var weak = hash.Of(api.TagLeaf)[1] == 0

// digest is the digest of a hash input.
func digest(input []byte) api.Digest {
	sum := sha256.Sum256(input)
	if weak {
		return api.Digest{sum[0] & 63}
	}
	return api.Digest(sum[:api.DigestSize])
}

// inputs are the hash inputs of a computation, in order.
type inputs [][]byte

// of is hash.Of for digests.
func (l *inputs) of(tag byte, parts ...api.Digest) api.Digest {
	b := []byte{tag}
	for _, d := range parts {
		b = append(append(b, 129, 16), d[:]...)
	}
	*l = append(*l, b)
	return digest(b)
}

// leafOf and node are the chapter's L and N.
func leafOf(d api.Digest) api.Digest    { return new(inputs).of(1, d) }
func node(x, y api.Digest) api.Digest   { return new(inputs).of(2, x, y) }
func list(l ...api.Digest) []api.Digest { return l }

// below returns the greatest power of 2 that is less than n.
func below(n int) int {
	k := 1
	for k < n-k {
		k *= 2
	}
	return k
}

// rootOf is P8.1.
func rootOf(l []api.Digest) api.Digest {
	switch len(l) {
	case 0:
		return new(inputs).of(1)
	case 1:
		return leafOf(l[0])
	}
	k := below(len(l))
	return node(rootOf(l[:k]), rootOf(l[k:]))
}

// proofOf is P8.2 for an index of l.
func proofOf(l []api.Digest, i int) []api.Digest {
	if len(l) == 1 {
		return nil
	}
	k := below(len(l))
	if i < k {
		return append(proofOf(l[:k], i), rootOf(l[k:]))
	}
	return append(proofOf(l[k:], i-k), rootOf(l[:k]))
}

// leads is the computation of P8.3 from the root down, and tells whether the proof has the right length. It collects the inputs.
func (l *inputs) leads(n, i int, leaf api.Digest, proof []api.Digest) (api.Digest, bool) {
	if i < 0 || i >= n || (n == 1) != (len(proof) == 0) {
		return api.Digest{}, false
	}
	if n == 1 {
		return l.of(1, leaf), true
	}
	k, last := below(n), len(proof)-1
	if i < k {
		x, fits := l.leads(k, i, leaf, proof[:last])
		return l.of(2, x, proof[last]), fits
	}
	x, fits := l.leads(n-k, i-k, leaf, proof[:last])
	return l.of(2, proof[last], x), fits
}

// leads is inputs.leads without the inputs.
func leads(n, i int, leaf api.Digest, proof []api.Digest) (api.Digest, bool) {
	return new(inputs).leads(n, i, leaf, proof)
}

// sub is P8.4.
func sub(l []api.Digest, m int, whole bool) []api.Digest {
	if m == len(l) {
		if whole {
			return nil
		}
		return list(rootOf(l))
	}
	k := below(len(l))
	if m <= k {
		return append(sub(l[:k], m, whole), rootOf(l[k:]))
	}
	return append(sub(l[k:], m-k, false), rootOf(l[:k]))
}

// pair is P8.5 for 1 <= m <= n, and tells whether the proof has the right length. It collects the inputs.
func (l *inputs) pair(old api.Digest, m, n int, whole bool, proof []api.Digest) (x, y api.Digest, fits bool) {
	last := len(proof) - 1
	switch {
	case m == n && whole:
		return old, old, last == -1
	case last == -1:
		return x, y, false
	case m == n:
		return proof[0], proof[0], last == 0
	}
	k, e := below(n), proof[last]
	if m <= k {
		x, y, fits = l.pair(old, m, k, whole, proof[:last])
		return x, l.of(2, y, e), fits
	}
	x, y, fits = l.pair(old, m-k, n-k, false, proof[:last])
	return l.of(2, e, x), l.of(2, e, y), fits
}

// isPrefix is P8.5.
func isPrefix(old, root api.Digest, m, n int, proof []api.Digest) bool {
	if m < 1 || m > n {
		return false
	}
	x, y, fits := new(inputs).pair(old, m, n, true, proof)
	return fits && x == old && y == root
}

// clashOf is P8.6.
func clashOf(n, i int, a, b api.Digest, p, q []api.Digest) ([]byte, []byte, bool) {
	var first, second inputs
	x, fits := first.leads(n, i, a, p)
	y, also := second.leads(n, i, b, q)
	if fits && also && x == y {
		for step := len(p); step >= 0; step-- {
			if !bytes.Equal(first[step], second[step]) {
				return first[step], second[step], true
			}
		}
	}
	return nil, nil, false
}

// peaksOf returns the peaks of a list as the chapter's terms say.
func peaksOf(l []api.Digest) api.Peaks {
	p := api.Peaks{Size: len(l)}
	for power := 1 << 40; power > 0; power /= 2 {
		if len(l)&power != 0 {
			p.Roots, l = append(p.Roots, rootOf(l[:power])), l[power:]
		}
	}
	return p
}

// added is P8.7 for valid peaks: the last two parts become one as long as they have the same length.
func added(p api.Peaks, leaf api.Digest) api.Peaks {
	var parts []int
	for power := size; power > 0; power /= 2 {
		if p.Size&power != 0 {
			parts = append(parts, power)
		}
	}
	parts, roots := append(parts, 1), append(slices.Clone(p.Roots), leafOf(leaf))
	for len(parts) > 1 && parts[len(parts)-2] == parts[len(parts)-1] {
		last := len(parts) - 1
		parts = append(parts[:last-1], 2*parts[last])
		roots = append(roots[:last-1], node(roots[last-1], roots[last]))
	}
	return api.Peaks{Size: p.Size + 1, Roots: roots}
}

// topOf is P8.7 for valid peaks.
func topOf(p api.Peaks) api.Digest {
	if len(p.Roots) == 0 {
		return new(inputs).of(1)
	}
	top := p.Roots[len(p.Roots)-1]
	for i := len(p.Roots) - 2; i >= 0; i-- {
		top = node(p.Roots[i], top)
	}
	return top
}

// isValid tells whether peaks are valid.
func isValid(p api.Peaks) bool {
	ones := strings.Count(strconv.FormatInt(int64(p.Size), 2), "1")
	return p.Size >= 0 && p.Size <= size && len(p.Roots) == ones
}

// element returns the digest number i, which another implementation can make, too.
func element(i int) api.Digest {
	sum := sha256.Sum256([]byte(strconv.Itoa(i)))
	return api.Digest(sum[:api.DigestSize])
}

// elements returns n different digests.
func elements(n int) []api.Digest {
	l := make([]api.Digest, n)
	for i := range l {
		l[i] = element(i)
	}
	return l
}

// random returns n random digests.
func random(r *rand.Rand, n int) []api.Digest {
	l := make([]api.Digest, n)
	for i := range l {
		r.Read(l[i][:])
	}
	return l
}

// flip returns a digest of which one bit is another one.
func flip(d api.Digest, bit int) api.Digest {
	d[bit/8%len(d)] ^= 1 << (bit % 8)
	return d
}

// replaced returns a copy of a list with another element.
func replaced(l []api.Digest, i int, d api.Digest) []api.Digest {
	l = slices.Clone(l)
	l[i] = d
	return l
}

// variants returns lists that differ from a proof: shorter, longer, empty, with one element changed, in another order.
func variants(proof []api.Digest) [][]api.Digest {
	n, extra := len(proof), element(-1)
	all := [][]api.Digest{
		nil, {}, {extra}, {{}}, {extra, extra}, append(slices.Clone(proof), extra), append(list(extra), proof...), append(slices.Clone(proof), api.Digest{}),
		append(slices.Clone(proof), proof...), make([]api.Digest, n), make([]api.Digest, 64), make([]api.Digest, 65),
	}
	for i, d := range proof {
		all = append(all, replaced(proof, i, flip(d, 37*i)), replaced(proof, i, flip(d, 127)), replaced(proof, i, api.Digest{}), replaced(proof, i, extra))
		all = append(all, slices.Delete(slices.Clone(proof), i, i+1), slices.Insert(slices.Clone(proof), i, d), proof[:i], proof[i+1:])
		for j := range i {
			all = append(all, replaced(replaced(proof, i, proof[j]), j, d))
		}
	}
	reversed := slices.Clone(proof)
	slices.Reverse(reversed)
	all = append(all, reversed)
	return slices.DeleteFunc(all, func(l []api.Digest) bool { return slices.Equal(l, proof) })
}

// isProven checks a proof for an element against P8.2, and that it is accepted, and returns it.
func isProven(t *testing.T, l []api.Digest, i int) []api.Digest {
	t.Helper()
	got, e := merkle.Prove(l, i)
	if want := proofOf(l, i); e != api.OK || !slices.Equal(got, want) {
		t.Fatalf("P8.2: Prove for %d of %d is %x, not %x, error %d", i, len(l), got, want, e)
	}
	if !merkle.Verify(merkle.Root(l), len(l), i, l[i], got) {
		t.Fatalf("P8.8: Verify does not accept what Prove returns for %d of %d", i, len(l))
	}
	return got
}

// isNotProven checks that there is no proof for an index.
func isNotProven(t *testing.T, l []api.Digest, i int) {
	t.Helper()
	if got, e := merkle.Prove(l, i); len(got) != 0 || e != api.ErrNone {
		t.Errorf("P8.2: Prove for %d of %d is %x, error %d", i, len(l), got, e)
	}
}

// isVerified checks that Verify accepts what P8.3 accepts.
func isVerified(t *testing.T, root api.Digest, n, i int, leaf api.Digest, proof []api.Digest) bool {
	t.Helper()
	top, fits := leads(n, i, leaf, proof)
	want := fits && top == root
	if got := merkle.Verify(root, n, i, leaf, proof); got != want {
		t.Fatalf("P8.3: Verify for %d of %d with a proof of %d elements is %t", i, n, len(proof), got)
	}
	return want
}

// isRejected checks that Verify does not accept something.
func isRejected(t *testing.T, root api.Digest, n, i int, leaf api.Digest, proof []api.Digest) {
	t.Helper()
	if isVerified(t, root, n, i, leaf, proof) {
		t.Fatalf("P8.3: for %d of %d a wrong proof of %d elements is accepted", i, n, len(proof))
	}
}

// isGrown checks a prefix proof against P8.4, and that it is accepted, and returns it.
func isGrown(t *testing.T, l []api.Digest, m int) []api.Digest {
	t.Helper()
	got, e := merkle.ProvePrefix(l, m)
	if want := sub(l, m, true); e != api.OK || !slices.Equal(got, want) {
		t.Fatalf("P8.4: ProvePrefix for %d of %d is %x, not %x, error %d", m, len(l), got, want, e)
	}
	if !merkle.VerifyPrefix(merkle.Root(l[:m]), merkle.Root(l), m, len(l), got) {
		t.Fatalf("P8.8: VerifyPrefix does not accept what ProvePrefix returns for %d of %d", m, len(l))
	}
	return got
}

// isNotGrown checks that there is no prefix proof for a number.
func isNotGrown(t *testing.T, l []api.Digest, m int) {
	t.Helper()
	if got, e := merkle.ProvePrefix(l, m); len(got) != 0 || e != api.ErrNone {
		t.Errorf("P8.4: ProvePrefix for %d of %d is %x, error %d", m, len(l), got, e)
	}
}

// isPrefixVerified checks that VerifyPrefix accepts what P8.5 accepts.
func isPrefixVerified(t *testing.T, old, root api.Digest, m, n int, proof []api.Digest) bool {
	t.Helper()
	want := isPrefix(old, root, m, n, proof)
	if got := merkle.VerifyPrefix(old, root, m, n, proof); got != want {
		t.Fatalf("P8.5: VerifyPrefix for %d of %d with a proof of %d elements is %t", m, n, len(proof), got)
	}
	return want
}

// isPrefixRejected checks that VerifyPrefix does not accept something.
func isPrefixRejected(t *testing.T, old, root api.Digest, m, n int, proof []api.Digest) {
	t.Helper()
	if isPrefixVerified(t, old, root, m, n, proof) {
		t.Fatalf("P8.5: for %d of %d a wrong proof of %d elements is accepted", m, n, len(proof))
	}
}

// isClash checks the result of Clash against P8.6.
func isClash(t *testing.T, n, i int, a, b api.Digest, p, q []api.Digest) bool {
	t.Helper()
	x, y, is := merkle.Clash(n, i, a, b, p, q)
	first, second, want := clashOf(n, i, a, b, p, q)
	if is != want || !bytes.Equal(x, first) || !bytes.Equal(y, second) || !is && (x != nil || y != nil) {
		t.Fatalf("P8.6: Clash for %d of %d with proofs of %d and %d elements is %x, %x, %t, not %x, %x, %t", i, n, len(p), len(q), x, y, is, first, second, want)
	}
	return want
}

// isNoClash checks that no collision is extracted.
func isNoClash(t *testing.T, n, i int, a, b api.Digest, p, q []api.Digest) {
	t.Helper()
	if isClash(t, n, i, a, b, p, q) {
		t.Fatalf("P8.6: Clash for %d of %d with proofs of %d and %d elements finds a collision", i, n, len(p), len(q))
	}
}

// isAdded checks that peaks with another element are those of P8.7, and returns them.
func isAdded(t *testing.T, p api.Peaks, leaf api.Digest) api.Peaks {
	t.Helper()
	got, e := merkle.Add(p, leaf)
	if want := added(p, leaf); e != api.OK || got.Size != want.Size || !slices.Equal(got.Roots, want.Roots) {
		t.Fatalf("P8.7: Add to peaks of Size %d is %x, not %x, error %d", p.Size, got, want, e)
	}
	return got
}

// isNotAdded checks that Add refuses peaks.
func isNotAdded(t *testing.T, p api.Peaks) {
	t.Helper()
	if got, e := merkle.Add(p, element(1)); got.Size != 0 || len(got.Roots) != 0 || e != api.ErrArg {
		t.Errorf("P8.7: Add to peaks of Size %d with %d roots is %x, error %d", p.Size, len(p.Roots), got, e)
	}
}

// isTop checks that the root of peaks is that of P8.7, and returns it.
func isTop(t *testing.T, p api.Peaks) api.Digest {
	t.Helper()
	got, e := merkle.Top(p)
	if want := topOf(p); e != api.OK || got != want {
		t.Fatalf("P8.7: Top of peaks of Size %d is %x, not %x, error %d", p.Size, got, want, e)
	}
	return got
}

// isRefused checks that Add and Top refuse peaks.
func isRefused(t *testing.T, p api.Peaks) {
	t.Helper()
	isNotAdded(t, p)
	if got, e := merkle.Top(p); got != (api.Digest{}) || e != api.ErrArg {
		t.Errorf("P8.7: Top of peaks of Size %d with %d roots is %x, error %d", p.Size, len(p.Roots), got, e)
	}
}

// isPromisedOfPeaks checks Add and Top against P8.7, whatever the peaks are.
func isPromisedOfPeaks(t *testing.T, p api.Peaks, leaf api.Digest) {
	t.Helper()
	if !isValid(p) {
		isRefused(t, p)
		return
	}
	isTop(t, p)
	if p.Size == size {
		isNotAdded(t, p)
		return
	}
	isTop(t, isAdded(t, p, leaf))
}

// isHex checks bytes against what another implementation computes.
func isHex(t *testing.T, promise, name string, got []byte, want string) {
	t.Helper()
	if h := hex.EncodeToString(got); h != want {
		t.Errorf("%s: %s is %s, not %s", promise, name, h, want)
	}
}

// brief returns a few bytes that depend on all bytes of many.
func brief(b []byte) []byte {
	sum := sha256.Sum256(b)
	return sum[:12]
}

// joined returns the number of some digests and their bytes.
func joined(l []api.Digest) []byte {
	b := []byte{byte(len(l))}
	for _, d := range l {
		b = append(b, d[:]...)
	}
	return b
}

// TestExamples checks the chapter's examples.
func TestExamples(t *testing.T) {
	a, b, c := element(1), element(2), element(3)
	l, ab := list(a, b, c), node(leafOf(a), leafOf(b))
	abc := node(ab, leafOf(c))
	if merkle.Root(nil) != hash.Of(1) || merkle.Root(l[:1]) != leafOf(a) || merkle.Root(l) != abc {
		t.Error("P8.1: the roots of the examples are wrong")
	}
	for i, want := range [][]api.Digest{{leafOf(b), leafOf(c)}, {leafOf(a), leafOf(c)}, {ab}} {
		if got := isProven(t, l, i); !slices.Equal(got, want) {
			t.Errorf("P8.2: Prove for %d is %x", i, got)
		}
	}
	isNotProven(t, l[:1], 1)
	for m, want := range map[int][]api.Digest{1: {leafOf(b), leafOf(c)}, 2: {leafOf(c)}, 3: nil} {
		if got := isGrown(t, l, m); !slices.Equal(got, want) {
			t.Errorf("P8.4: ProvePrefix for %d is %x", m, got)
		}
	}
	isNoClash(t, 1, 0, a, a, nil, nil)
	p := api.Peaks{}
	for _, d := range l {
		p = isAdded(t, p, d)
	}
	if p.Size != 3 || !slices.Equal(p.Roots, list(ab, leafOf(c))) || isTop(t, p) != abc {
		t.Errorf("P8.7: the peaks of three elements are %x", p)
	}
	isRefused(t, api.Peaks{Size: 2})
}

// TestKnown checks roots, all proofs, all prefix proofs and the peaks of lists against another implementation, which goes through the levels of a tree.
func TestKnown(t *testing.T) {
	isHex(t, "P8.1", "the root of no elements", joined(list(merkle.Root(nil)))[1:], "4bf5122f344554c53bde2ebb8cd2b7e3")
	for _, x := range []struct {
		n                             int
		root, proofs, prefixes, peaks string
	}{
		{1, "067bc20200326509231e13abde36b84c", "6e340b9cffb37a989ca544e6", "6e340b9cffb37a989ca544e6", "d67eb0712423897a40b195c6"},
		{2, "e5682ca9bf70ed60324cdd9adb40ffb5", "36084122bffab638b0698738", "6cb54fa8583947d0ed69528f", "23675530eee62896069bdb67"},
		{3, "81770119bb52deeced3de9e3afeb1589", "0a04c1ebb680e6f1152a4213", "b87693ae98849283eb8d992c", "46f278b9b5608e8e123fd9b7"},
		{4, "e6692b8afd381503af15e46c4ac4f100", "e64037d1fb06fd2e125cc3e3", "c683730f0b73ac85ec514824", "15c1d8c7bf9e6f09c4837b1e"},
		{5, "e837526a8cb9f55f95ed5623fd746746", "d14fb0af0830b08e6023d564", "4daac0bc55836298e2452af7", "297f5df4c8d5eeedff4b3326"},
		{6, "1b17768474bcf320b75d803e5516791f", "376c5c084821151710d01009", "bb5f38fdf3331514b440067b", "91237e7c9f6abf34d19d14c5"},
		{7, "67dac9fd5fb7d9e17bd7d767033c966b", "8e2e748f124216a5a8c135d6", "3678e08be4f2fb9c384d1ad9", "59787dd8b51a90d1f5c79b8d"},
		{8, "610635d77fd89f009b7561f815fd382e", "4d9e4e42167395bf260384ab", "bd4e8e5f4c10a99eee35ef23", "1ae945929d8cf0e092f74a45"},
		{9, "4c5af1704989c4c812dd3c8ee9795fec", "977779e7055aed83658107ff", "bbe70859baf6a52b23232db6", "0bb7cfaab40288e16524fa5f"},
		{15, "13e71a115465f23d0dc0a0b837db3117", "883f65a618bdcdb9e9b4b6a4", "6d32433b08739f10373ee726", "7bcd9bf011b4dc2c313f5f48"},
		{16, "a98420a1b2916f607c4633e6a9e03eb8", "5a63faaf62d3a9e9ca837780", "860e1327ff56f04f3d56f1d7", "1f3b87a9ae5d74a543523cd8"},
		{17, "5eec112ac09353d6941b336a1e7396a0", "6f24afecdebdb1f00dddfbb0", "169ba7d0649b578642a11c57", "873951b75eba922d3294bd43"},
		{31, "de62350d1223c1a158a2b0da993243ec", "cea7a61573fc7273ff71583c", "7d237ed1edf5613a4ded882a", "35d7663125363308fe38ba2d"},
		{32, "57a064e8cc56f87641b09d62ca8139b8", "a6be54696832aaabce6d035c", "d11e88c4ea4b214d6c153210", "5163d40935fa5e5501cbde15"},
		{33, "69e8ed054eeaf311870b64ebbfd7e660", "cd9cf96778804011e17e08f1", "31beaf261d90bd6b827ccd14", "6dd33409d97a27c74506c025"},
		{63, "cf74a11219de4d7ac7e4cb064e7ec71a", "5407fa8ef2b2f7080932724e", "1f2586fe3cbc4a4dc144cffe", "bd9d18b3b5ce05bd1ae1e6b4"},
		{64, "66eb125bdf13eacfb4e7d3813ec555f7", "d413fea4df431a90833cdc30", "8488ef7f906c32f3fb738964", "c74b194b9fffd2400551f9d4"},
		{65, "3937df7e71814ce2df00f4407650c75b", "1e6f3d150281cafc89e90a1e", "7b9db617d805fbedaafa1667", "fc512bc728b27b30e82adc12"},
		{70, "fb47c22c499acdb6e4ec9121ce2dc965", "64ca412eb75c14b7ccb815b8", "093d6d2b771ed40ad8dfed9b", "92213bcc8accea8b977e546f"},
		{127, "fc214937687ba30d421a21c6cffe9df8", "6443d400caa7824092a1aafb", "5ca8e7f3719bc70ab6cec80e", "5ff02d8c37ff4173d047f3e2"},
		{128, "2873926b8ba944ea35e38f426d5adbf9", "17778d7ed327aef9e51235ca", "42fabd236fc3e271ec8487ed", "c903fbc14a8c514ded5605d8"},
		{129, "77bedd7426250d970d737568fd87eeff", "d0d515a543e39505f536123f", "d5de9a8737b2fcee1a2da7ef", "15e9d00b11b3e20fce34791c"},
		{255, "306ae9cc5c31433b918fed8a23e1f05e", "65b498fa18bc7c39df2675a4", "65dc4aa6fcded0a96958ad27", "57eedec1cf22fcad92fafd9e"},
		{256, "a92d79f7969b4d7b96cc0e9cba2a3197", "da80870235c91471d032e713", "4a7eb86009141b43cf3f84f6", "f146a13388f8ec1115f90569"},
		{257, "01384783994f62ff49abd9edeef3dd06", "3a0c84b79892653d729b0be9", "71bd4e942b4f6df76d98e6e8", "d24976caca5a0a32b7b34717"},
	} {
		l := elements(x.n)
		var proofs, prefixes []byte
		p := api.Peaks{}
		for i, d := range l {
			proof, e := merkle.Prove(l, i)
			prefix, f := merkle.ProvePrefix(l, i+1)
			next, g := merkle.Add(p, d)
			if e != api.OK || f != api.OK || g != api.OK {
				t.Fatalf("P8.2: element %d of %d has the errors %d, %d and %d", i, x.n, e, f, g)
			}
			proofs, prefixes, p = append(proofs, joined(proof)...), append(prefixes, joined(prefix)...), next
		}
		name := " of " + strconv.Itoa(x.n) + " elements"
		isHex(t, "P8.1", "the root"+name, joined(list(merkle.Root(l)))[1:], x.root)
		isHex(t, "P8.2", "the hash of all proofs"+name, brief(proofs), x.proofs)
		isHex(t, "P8.4", "the hash of all prefix proofs"+name, brief(prefixes), x.prefixes)
		isHex(t, "P8.7", "the hash of the peaks"+name, brief(joined(p.Roots)[1:]), x.peaks)
	}
	isHex(t, "P8.1", "the root of 4095 elements", joined(list(merkle.Root(elements(4095))))[1:], "8a7d01c80d3e1933537775478348178e")
}

// TestRoot compares roots with P8.1: of all short lists, and of longer ones near powers of 2.
func TestRoot(t *testing.T) {
	r := rand.New(rand.NewSource(1))
	for _, n := range append(slices.Clone(lengths), 1000, 1023, 1024, 1025) {
		for _, l := range [][]api.Digest{elements(n), random(r, n), make([]api.Digest, n)} {
			if got, want := merkle.Root(l), rootOf(l); got != want {
				t.Errorf("P8.1: the root of %d elements is %x, not %x", n, got, want)
			}
		}
	}
	if merkle.Root([]api.Digest{}) != merkle.Root(nil) {
		t.Error("P8.1: an empty list has another root than none")
	}
}

// TestRootDepends checks that each bit of an element changes the root, and each element, and the order, and the number of elements.
func TestRootDepends(t *testing.T) {
	seen := map[api.Digest]bool{}
	add := func(l []api.Digest) {
		t.Helper()
		if root := merkle.Root(l); seen[root] || root != rootOf(l) {
			t.Errorf("P8.1: the root of %d elements occurs twice or is wrong", len(l))
		} else {
			seen[root] = true
		}
	}
	for n := range long + 1 {
		l := elements(n)
		add(l)
		for i := range l {
			add(replaced(l, i, flip(l[i], 5*i)))
			if i > 0 {
				add(replaced(replaced(l, i, l[i-1]), i-1, l[i]))
			}
		}
	}
	for bit := range 8 * api.DigestSize {
		add(list(flip(element(-7), bit)))
		add(list(flip(element(-7), bit), element(1), element(2)))
		add(list(element(1), element(2), flip(element(-7), bit)))
	}
	// A list of the parts' roots is not the list: leaves and nodes have different tags.
	l := elements(4)
	add(list(node(leafOf(l[0]), leafOf(l[1])), node(leafOf(l[2]), leafOf(l[3]))))
	add(list(leafOf(l[0]), leafOf(l[1]), leafOf(l[2]), leafOf(l[3])))
}

// TestProve compares proofs with P8.2: for each index of all short lists, and of longer ones.
func TestProve(t *testing.T) {
	for _, n := range lengths {
		l := elements(n)
		for i := 0; i < n; i += 1 + n/100 {
			isProven(t, l, i)
		}
		if n > 0 {
			isProven(t, l, n-1)
			isProven(t, make([]api.Digest, n), n/2)
		}
	}
}

// TestProveNone checks that only an index has a proof.
func TestProveNone(t *testing.T) {
	for _, n := range lengths {
		l := elements(n)
		for _, i := range append([]int{-1, n, n + 1, -n - 1, 2*n + 1, n + 1<<32, -1 << 31}, extremes...) {
			isNotProven(t, l, i)
			isNotProven(t, make([]api.Digest, n, n+10)[:n], i)
		}
	}
	isNotProven(t, nil, 0)
	isNotProven(t, []api.Digest{}, 0)
}

// TestVerify checks that of what is near a proof nothing else is accepted: no other proof, root, leaf or index.
func TestVerify(t *testing.T) {
	for n := 1; n <= long; n++ {
		l := elements(n)
		root := rootOf(l)
		for i := range n {
			if n > 20 && n < 62 && i%5 != n%5 {
				continue
			}
			proof := isProven(t, l, i)
			if !isVerified(t, root, n, i, l[i], proof) {
				t.Fatalf("P8.3: the proof for %d of %d is not accepted", i, n)
			}
			for _, other := range variants(proof) {
				isRejected(t, root, n, i, l[i], other)
			}
			for _, other := range []api.Digest{{}, flip(root, i), flip(root, 127), flip(root, 0), l[i], leafOf(root), element(-1)} {
				isRejected(t, other, n, i, l[i], proof)
			}
			for _, other := range []api.Digest{{}, flip(l[i], n), flip(l[i], 127), flip(l[i], 0), leafOf(l[i]), root, element(-1)} {
				isRejected(t, root, n, i, other, proof)
			}
			for j := range n {
				if j != i {
					isRejected(t, root, n, j, l[i], proof)
					isRejected(t, root, n, i, l[j], proof)
				}
			}
		}
	}
}

// TestVerifyBits checks that each bit of the root, the leaf and each element of the proof counts.
func TestVerifyBits(t *testing.T) {
	for _, n := range []int{1, 2, 3, 7, 8, 13} {
		l := elements(n)
		for i := range n {
			proof := isProven(t, l, i)
			for bit := range 8 * api.DigestSize {
				isRejected(t, flip(rootOf(l), bit), n, i, l[i], proof)
				isRejected(t, rootOf(l), n, i, flip(l[i], bit), proof)
				for j := range proof {
					isRejected(t, rootOf(l), n, i, l[i], replaced(proof, j, flip(proof[j], bit)))
				}
			}
		}
	}
}

// TestVerifyNumbers compares Verify with P8.3 for other lengths and indices than those of the proof, of which some are accepted.
func TestVerifyNumbers(t *testing.T) {
	accepted := 0
	for n := 1; n <= 13; n++ {
		l := elements(n)
		for i := range n {
			proof := isProven(t, l, i)
			for m := -2; m <= 34; m++ {
				for j := -2; j <= 34; j++ {
					if isVerified(t, rootOf(l), m, j, l[i], proof) && (m != n || j != i) {
						accepted++
					}
				}
			}
			for _, m := range extremes {
				isVerified(t, rootOf(l), m, i, l[i], proof)
				isRejected(t, rootOf(l), n, m, l[i], proof)
				isVerified(t, rootOf(l), m, m-1, l[i], proof)
				isRejected(t, rootOf(l), m, m, l[i], proof)
			}
		}
	}
	if accepted < 100 {
		t.Errorf("P8.3: only %d other lengths have the same proof", accepted)
	}
}

// TestVerifyNone checks that lists without elements have no proofs, and no list has one for an index that it has not.
func TestVerifyNone(t *testing.T) {
	leaf := element(3)
	for _, root := range []api.Digest{{}, rootOf(nil), leafOf(leaf), leaf} {
		for _, proof := range [][]api.Digest{nil, {}, {leaf}, {root}, {{}, {}}} {
			for _, n := range []int{0, -1, -2, -8, math.MinInt, math.MinInt + 1} {
				for _, i := range append([]int{0, 1, n, n - 1, n + 1}, extremes...) {
					isRejected(t, root, n, i, leaf, proof)
				}
			}
			for n := 1; n <= 9; n++ {
				for _, i := range append([]int{-1, n, n + 1, n + 1<<32, -n}, extremes...) {
					isRejected(t, root, n, i, leaf, proof)
				}
			}
		}
	}
}

// TestVerifyKnown checks proofs in lists that are too long for any memory against another implementation: element 7 at index i, and the elements from 0 on as a proof.
func TestVerifyKnown(t *testing.T) {
	for _, x := range []struct {
		n, i, length int
		root         string
	}{
		{math.MaxInt, 0, 63, "3235bff904aa62d8debbb99a03961b8b"},
		{math.MaxInt, math.MaxInt - 1, 62, "d1de5f0ee94d32074d5be82ad4aac28d"},
		{math.MaxInt, 1 << 62, 63, "48d0cf2d363eda49e1e7aa279d694440"},
		{math.MaxInt, 1<<62 - 1, 63, "3866ca2825c2de11ead9b64256ad83fa"},
		{1<<62 + 1, 1 << 62, 1, "1a8b491c62fffc4ab734e87a30f6ea20"},
		{1<<62 + 1, 5, 63, "d89a9eacdc8507a0c85fd93caab1c89e"},
		{1 << 62, 1<<61 + 12345, 62, "9f8a0d39a930ea720133bbe0431db645"},
		{1 << 32, 1<<32 - 1, 32, "1a6394583064ce5f298e0f1a7989ff31"},
		{1<<32 + 1, 1 << 32, 1, "1a8b491c62fffc4ab734e87a30f6ea20"},
		{1e18, 1e17 + 3, 60, "605c90c27e01c5b20094e4fc8f287148"},
		{6e18, 6e18 - 1, 38, "612af8d3366d8253999ce793e28dac1f"},
	} {
		b, _ := hex.DecodeString(x.root)
		root := api.Digest(b)
		for length := range 70 {
			if got := merkle.Verify(root, x.n, x.i, element(7), elements(length)); got != (length == x.length) {
				t.Errorf("P8.3: Verify for %d of %d with a proof of %d elements is %t", x.i, x.n, length, got)
			}
		}
		isRejected(t, flip(root, 9), x.n, x.i, element(7), elements(x.length))
		isRejected(t, root, x.n, x.i, element(8), elements(x.length))
		isNoClash(t, x.n, x.i, element(7), element(7), elements(x.length), elements(x.length))
		isNoClash(t, x.n, x.i, element(7), element(8), elements(x.length), elements(x.length))
		isNoClash(t, x.n, x.i, element(7), element(7), elements(x.length), elements(x.length+1))
	}
}

// far returns indices of a list that is too long for any memory.
func far(r *rand.Rand, n int) []int {
	k := below(n)
	return []int{0, 1, 2, k - 2, k - 1, k, n - 1, n - 2, n / 2, n / 3, r.Intn(n), r.Intn(n), r.Intn(n)}
}

// huge are lengths that no list in memory has.
var huge = []int{1<<31 - 1, 1 << 31, 1<<31 + 1, 1<<32 - 1, 1 << 32, 1<<32 + 1, 1<<53 + 7, 1 << 61, 1<<61 + 3, 1<<62 - 1, 1 << 62, 1<<62 + 1, 1<<62 + 1<<61, math.MaxInt - 2, math.MaxInt - 1, math.MaxInt}

// TestVerifyHuge compares Verify with P8.3 in lists that are too long for any memory, with random proofs of all lengths that have the right root or another one.
func TestVerifyHuge(t *testing.T) {
	r := rand.New(rand.NewSource(2))
	for _, n := range huge {
		for _, i := range far(r, n) {
			accepted := 0
			for length := range 67 {
				leaf, proof := random(r, 1)[0], random(r, length)
				root, fits := leads(n, i, leaf, proof)
				if fits {
					accepted++
				}
				isVerified(t, root, n, i, leaf, proof)
				isRejected(t, element(1), n, i, leaf, proof)
				isRejected(t, root, n, i, element(1), proof)
				for _, j := range []int{-1, n, -n, math.MinInt} {
					isRejected(t, root, n, j, leaf, proof)
				}
			}
			if accepted != 1 {
				t.Errorf("P8.3: for %d of %d proofs of %d lengths are accepted", i, n, accepted)
			}
		}
	}
}

// TestProvePrefix compares prefix proofs with P8.4: for each number of elements of all short lists, and for some of longer ones.
func TestProvePrefix(t *testing.T) {
	for _, n := range lengths {
		l := elements(n)
		for m := 1; m <= n; m += 1 + n/100 {
			isGrown(t, l, m)
		}
		if n > 0 {
			if proof := isGrown(t, l, n); len(proof) != 0 {
				t.Errorf("P8.4: the prefix proof for all %d elements has %d", n, len(proof))
			}
			isGrown(t, make([]api.Digest, n), (n+1)/2)
		}
	}
}

// TestProvePrefixNone checks that only a number from 1 to the length has a prefix proof.
func TestProvePrefixNone(t *testing.T) {
	for _, n := range lengths {
		l := elements(n)
		for _, m := range append([]int{0, -1, n + 1, n + 2, -n, 2*n + 1, n + 1<<32}, extremes...) {
			if m != n || n == 0 {
				isNotGrown(t, l, m)
				isNotGrown(t, make([]api.Digest, n, n+10)[:n], m)
			}
		}
	}
	isNotGrown(t, nil, 0)
	isNotGrown(t, nil, 1)
}

// TestVerifyPrefix checks that of what is near a prefix proof nothing else is accepted: no other proof, old root, or root.
func TestVerifyPrefix(t *testing.T) {
	for n := 1; n <= long; n++ {
		l := elements(n)
		root := rootOf(l)
		for m := 1; m <= n; m++ {
			if n > 20 && n < 62 && m%5 != n%5 {
				continue
			}
			old, proof := rootOf(l[:m]), isGrown(t, l, m)
			if !isPrefixVerified(t, old, root, m, n, proof) {
				t.Fatalf("P8.5: the prefix proof for %d of %d is not accepted", m, n)
			}
			for _, other := range append(variants(proof), list(old), list(root)) {
				if !slices.Equal(other, proof) {
					isPrefixRejected(t, old, root, m, n, other)
				}
			}
			for _, other := range []api.Digest{{}, flip(old, m), flip(old, 127), flip(old, 0), rootOf(nil), leafOf(old), element(-1), rootOf(l[:m-1])} {
				isPrefixRejected(t, other, root, m, n, proof)
			}
			for _, other := range []api.Digest{{}, flip(root, m), flip(root, 127), flip(root, 0), rootOf(nil), leafOf(root), element(-1), rootOf(l[:n-1])} {
				isPrefixRejected(t, old, other, m, n, proof)
				isPrefixRejected(t, other, other, m, n, append(slices.Clone(proof), old))
			}
			if m < n {
				isPrefixRejected(t, flip(old, 3), flip(root, 3), m, n, proof)
				isPrefixRejected(t, root, old, m, n, proof)
				isPrefixRejected(t, old, old, m, n, proof)
				isPrefixRejected(t, root, root, m, n, proof)
			}
		}
	}
}

// TestVerifyPrefixBits checks that each bit of both roots and of each element of the proof counts.
func TestVerifyPrefixBits(t *testing.T) {
	for _, n := range []int{1, 2, 3, 7, 8, 13} {
		l := elements(n)
		for m := 1; m <= n; m++ {
			old, root, proof := rootOf(l[:m]), rootOf(l), isGrown(t, l, m)
			for bit := range 8 * api.DigestSize {
				isPrefixRejected(t, flip(old, bit), root, m, n, proof)
				isPrefixRejected(t, old, flip(root, bit), m, n, proof)
				for j := range proof {
					isPrefixRejected(t, old, root, m, n, replaced(proof, j, flip(proof[j], bit)))
				}
			}
		}
	}
}

// TestVerifyPrefixNumbers compares VerifyPrefix with P8.5 for other numbers than those of the proof, of which some are accepted.
func TestVerifyPrefixNumbers(t *testing.T) {
	accepted := 0
	for n := 1; n <= 18; n++ {
		l := elements(n)
		for m := 1; m <= n; m++ {
			old, root, proof := rootOf(l[:m]), rootOf(l), isGrown(t, l, m)
			for other := -2; other <= 34; other++ {
				for length := -2; length <= 34; length++ {
					if isPrefixVerified(t, old, root, other, length, proof) && (other != m || length != n) {
						accepted++
					}
				}
			}
			for _, x := range extremes {
				isPrefixRejected(t, old, root, x, n, proof)
				isPrefixVerified(t, old, root, m, x, proof)
				isPrefixVerified(t, old, root, x, x, proof)
				isPrefixVerified(t, old, root, x-1, x, proof)
			}
		}
	}
	if accepted < 100 {
		t.Errorf("P8.5: only %d other numbers have the same proof", accepted)
	}
}

// TestVerifyPrefixNone checks that there is no proof for fewer than one element, nor for more than all.
func TestVerifyPrefixNone(t *testing.T) {
	a, b := element(1), element(2)
	for _, proof := range [][]api.Digest{nil, {}, {a}, {b}, {a, b}, {{}}} {
		for _, old := range []api.Digest{{}, rootOf(nil), a, leafOf(a)} {
			for _, root := range []api.Digest{old, b, leafOf(a), node(a, b)} {
				for n := -3; n <= 9; n++ {
					for _, m := range append([]int{0, -1, -n, n + 1, n + 2, n + 1<<32}, extremes...) {
						if m < 1 || m > n {
							isPrefixRejected(t, old, root, m, n, proof)
						}
					}
				}
				for _, n := range extremes {
					isPrefixRejected(t, old, root, 0, n, proof)
					isPrefixRejected(t, old, root, -1, n, proof)
					isPrefixRejected(t, old, root, math.MinInt, n, proof)
					if n < math.MaxInt {
						isPrefixRejected(t, old, root, n+1, n, proof)
						isPrefixRejected(t, old, root, math.MaxInt, n, proof)
					}
				}
			}
		}
	}
}

// TestVerifyPrefixWhole checks what is accepted for all elements of a list: an empty proof and equal roots, whatever these are.
func TestVerifyPrefixWhole(t *testing.T) {
	for _, n := range append(append(slices.Clone(lengths), huge...), extremes...) {
		for _, a := range []api.Digest{{}, element(5), rootOf(elements(5)), rootOf(nil)} {
			for _, empty := range [][]api.Digest{nil, {}} {
				if got := merkle.VerifyPrefix(a, a, n, n, empty); got != (n > 0) {
					t.Errorf("P8.5: VerifyPrefix for all of %d elements is %t", n, got)
				}
				isPrefixRejected(t, a, element(6), n, n, empty)
				isPrefixRejected(t, element(6), a, n, n, empty)
				isPrefixRejected(t, a, flip(a, 127), n, n, empty)
			}
			for _, e := range []api.Digest{{}, a, element(6)} {
				isPrefixRejected(t, a, a, n, n, list(e))
				isPrefixRejected(t, a, e, n, n, list(e))
				isPrefixRejected(t, e, a, n, n, list(e))
				isPrefixRejected(t, a, a, n, n, list(e, a))
			}
		}
	}
}

// TestVerifyPrefixKnown checks prefix proofs in lists that are too long for any memory against another implementation, with the elements from 0 on as a proof, and element 99 as the old root where it is not computed.
func TestVerifyPrefixKnown(t *testing.T) {
	for _, x := range []struct {
		n, m, length int
		old, root    string
	}{
		{math.MaxInt, 1, 63, "8c1f1046219ddd216a023f792356ddf1", "ab69c904c27ce3174a1da9b5a872b536"},
		{math.MaxInt, math.MaxInt - 1, 63, "350633cc7cbfcc3fb3081a86e47f4f5f", "32467f6bceb122dfccc7383ce48cd93c"},
		{math.MaxInt, 1 << 62, 1, "8c1f1046219ddd216a023f792356ddf1", "870ca91314efd8587de6e05faf1fa061"},
		{math.MaxInt, 1<<62 + 1, 64, "b6c275b8b23f7cb4757fe7513e94b25e", "c1ac04a7070a46704110ad888736c633"},
		{math.MaxInt, 1<<62 - 1, 64, "350633cc7cbfcc3fb3081a86e47f4f5f", "b2cd9e18f4188e897f7c72f3d2c8a0dd"},
		{1<<62 + 1, 1 << 62, 1, "8c1f1046219ddd216a023f792356ddf1", "870ca91314efd8587de6e05faf1fa061"},
		{1 << 62, 1<<62 - 1, 63, "350633cc7cbfcc3fb3081a86e47f4f5f", "32467f6bceb122dfccc7383ce48cd93c"},
		{1<<32 + 1, 1 << 32, 1, "8c1f1046219ddd216a023f792356ddf1", "870ca91314efd8587de6e05faf1fa061"},
		{1<<32 + 1, 1<<32 - 1, 34, "a04e2bd40b383c593697de6ffe295a87", "7a729326c1cd54b739a7518429a80202"},
		{1e18, 1e17 + 3, 61, "7c0feaae1629409ea2bfc7d33b1e3505", "cdc1a0349682baa848ead29fe8054038"},
		{6e18, 12345678, 63, "8f2d8aae09f55a194cb5b4bcb8640e1c", "ed2c3ce338559fb7a1a1a0ee21bbff43"},
	} {
		b, _ := hex.DecodeString(x.old)
		c, _ := hex.DecodeString(x.root)
		old, root := api.Digest(b), api.Digest(c)
		for length := range 70 {
			if got := merkle.VerifyPrefix(old, root, x.m, x.n, elements(length)); got != (length == x.length) {
				t.Errorf("P8.5: VerifyPrefix for %d of %d with a proof of %d elements is %t", x.m, x.n, length, got)
			}
		}
		isPrefixRejected(t, flip(old, 9), root, x.m, x.n, elements(x.length))
		isPrefixRejected(t, old, flip(root, 9), x.m, x.n, elements(x.length))
	}
}

// TestVerifyPrefixHuge compares VerifyPrefix with P8.5 in lists that are too long for any memory, with random proofs of all lengths that have the right roots or other ones.
func TestVerifyPrefixHuge(t *testing.T) {
	r := rand.New(rand.NewSource(3))
	for _, n := range huge {
		for _, i := range far(r, n) {
			accepted := 0
			for length := range 68 {
				first, proof := random(r, 1)[0], random(r, length)
				old, root, fits := new(inputs).pair(first, i+1, n, true, proof)
				if fits {
					accepted++
				}
				isPrefixVerified(t, old, root, i+1, n, proof)
				isPrefixRejected(t, element(1), root, i+1, n, proof)
				isPrefixRejected(t, old, element(1), i+1, n, proof)
			}
			if accepted != 1 {
				t.Errorf("P8.5: for %d of %d proofs of %d lengths are accepted", i+1, n, accepted)
			}
		}
	}
}

// TestNoClash checks that there is no collision in equal computations, nor in any that differ, as no collision of the hash is known.
func TestNoClash(t *testing.T) {
	for n := 1; n <= 17; n++ {
		l := elements(n)
		for i := range n {
			a, p := l[i], isProven(t, l, i)
			isNoClash(t, n, i, a, a, p, p)
			isNoClash(t, n, i, a, a, p, slices.Clone(p))
			isNoClash(t, n, i, a, element(-1), p, p)
			isNoClash(t, n, i, element(-1), a, p, p)
			isNoClash(t, n, i, element(-1), element(-1), p, p)
			for _, q := range variants(p) {
				isNoClash(t, n, i, a, a, p, q)
				isNoClash(t, n, i, a, a, q, p)
				isNoClash(t, n, i, a, a, q, q)
				isNoClash(t, n, i, a, element(-1), p, q)
			}
			for _, j := range append([]int{-1, n, n + 1, -n}, extremes...) {
				isNoClash(t, n, j, a, a, p, p)
				isNoClash(t, n, j, a, element(-1), p, p)
				isNoClash(t, j, i, a, element(-1), p, p)
			}
			isNoClash(t, 0, 0, a, element(-1), p, p)
			isNoClash(t, 0, 0, a, element(-1), nil, nil)
		}
	}
}

// TestHistory checks that a history that was shown cannot be changed: an element is proved to be the same one in a list and in its first elements, and no prefix proof of either list leads from the old root to that of a list in which one of these differs (P8.9).
func TestHistory(t *testing.T) {
	for n := 1; n <= 20; n++ {
		l := elements(n)
		root := merkle.Root(l)
		for m := 1; m <= n; m++ {
			old, proof := merkle.Root(l[:m]), isGrown(t, l, m)
			for i := range n {
				other := replaced(l, i, flip(l[i], i))
				changed, after := isGrown(t, other, m), merkle.Root(other)
				if i >= m {
					if !isPrefixVerified(t, old, after, m, n, changed) {
						t.Fatalf("P8.5: %d elements can not be followed by others", m)
					}
					continue
				}
				before, first, later := merkle.Root(other[:m]), isProven(t, l[:m], i), isProven(t, l, i)
				for j, d := range l {
					if merkle.Verify(old, m, i, d, first) != (i == j) || merkle.Verify(root, n, i, d, later) != (i == j) {
						t.Fatalf("P8.9: element %d is proved to be that at %d of %d and %d", j, i, m, n)
					}
				}
				for _, q := range [][]api.Digest{proof, changed} {
					isPrefixRejected(t, old, after, m, n, q)
					isPrefixRejected(t, before, root, m, n, q)
				}
			}
		}
	}
}

// TestPeaks checks the peaks of all short lists against the chapter's terms, and that their Top is the Root (P8.10).
func TestPeaks(t *testing.T) {
	l := elements(600)
	p := api.Peaks{}
	for n := range len(l) + 1 {
		want := peaksOf(l[:n])
		if p.Size != n || !slices.Equal(p.Roots, want.Roots) {
			t.Fatalf("P8.7: the peaks of %d elements are %x, not %x", n, p, want)
		}
		if got, e := merkle.Top(p); e != api.OK || got != rootOf(l[:n]) || got != merkle.Root(l[:n]) {
			t.Fatalf("P8.10: Top of the peaks of %d elements is %x, error %d", n, got, e)
		}
		if n < len(l) {
			p = isAdded(t, p, l[n])
		}
	}
}

// TestPeaksBits checks that each bit of the leaf and of each root counts.
func TestPeaksBits(t *testing.T) {
	for n := range 12 {
		l := elements(n)
		p := peaksOf(l)
		next := isAdded(t, p, element(n))
		for bit := range 8 * api.DigestSize {
			if other := isAdded(t, p, flip(element(n), bit)); isTop(t, other) == isTop(t, next) {
				t.Fatalf("P8.7: bit %d of the element after %d makes no difference", bit, n)
			}
			for j := range p.Roots {
				changed := api.Peaks{Size: n, Roots: replaced(p.Roots, j, flip(p.Roots[j], bit))}
				if isTop(t, changed) == isTop(t, p) || isTop(t, isAdded(t, changed, element(n))) == isTop(t, next) {
					t.Fatalf("P8.7: bit %d of root %d of %d elements makes no difference", bit, j, n)
				}
			}
		}
	}
}

// TestPeaksAny compares Add and Top with P8.7 for valid peaks of any roots: of all small sizes, and of sizes near 2^32.
func TestPeaksAny(t *testing.T) {
	r := rand.New(rand.NewSource(4))
	sizes := slices.Clone(lengths)
	for k := range 33 {
		for d := -3; d <= 3; d++ {
			sizes = append(sizes, 1<<k+d, size-1<<k+d)
		}
	}
	for range 200 {
		sizes = append(sizes, r.Intn(size))
	}
	for _, n := range sizes {
		if n < 0 || n > size {
			continue
		}
		p := api.Peaks{Size: n, Roots: random(r, bits.OnesCount64(uint64(n)))}
		isPromisedOfPeaks(t, p, element(n))
		if n < size {
			isPromisedOfPeaks(t, isAdded(t, p, element(n)), element(n+1))
		}
	}
}

// TestPeaksLast checks the peaks of 2^32 - 1 elements, of 2^32, to which no element can be added, and of more.
func TestPeaksLast(t *testing.T) {
	r := rand.New(rand.NewSource(5))
	p := api.Peaks{Size: size - 3, Roots: random(r, 31)}
	for range 3 {
		p = isAdded(t, p, element(p.Size))
	}
	if p.Size != size || len(p.Roots) != 1 || isTop(t, p) != p.Roots[0] {
		t.Fatalf("P8.7: the peaks of 2^32 elements are %x", p)
	}
	isNotAdded(t, p)
	isRefused(t, api.Peaks{Size: size, Roots: random(r, 0)})
	isRefused(t, api.Peaks{Size: size, Roots: random(r, 2)})
	isRefused(t, api.Peaks{Size: size, Roots: random(r, 33)})
	for _, n := range []int{size + 1, size + 2, size + 3, 2*size - 1, 2 * size, 2*size + 1, 3 * size} {
		isRefused(t, api.Peaks{Size: n, Roots: random(r, bits.OnesCount64(uint64(n)))})
	}
}

// TestPeaksInvalid checks that peaks with any other number of roots are refused, and such of a size that is negative or too great.
func TestPeaksInvalid(t *testing.T) {
	for n := range 260 {
		for count := range 70 {
			if count != bits.OnesCount(uint(n)) {
				isRefused(t, api.Peaks{Size: n, Roots: elements(count)})
			}
		}
	}
	for k := range 33 {
		for _, n := range []int{1 << k, 1<<k + 1, 1<<k - 1, size - 1<<k, size - 1<<k + 1} {
			if n <= size {
				ones := bits.OnesCount64(uint64(n))
				isRefused(t, api.Peaks{Size: n, Roots: elements(ones + 1)})
				isRefused(t, api.Peaks{Size: n, Roots: elements(ones + 2)})
				if ones > 0 {
					isRefused(t, api.Peaks{Size: n, Roots: elements(ones - 1)})
				}
			}
		}
	}
	for _, n := range append([]int{-3, -1 << 31, -1<<32 - 1, size + 1, size + 5, 1 << 33, 1<<40 + 3}, extremes...) {
		for count := range 70 {
			if p := (api.Peaks{Size: n, Roots: elements(count)}); !isValid(p) {
				isRefused(t, p)
			}
		}
	}
}

// TestPeaksApart checks that two lists can be continued from the same peaks, also if there is memory behind these.
func TestPeaksApart(t *testing.T) {
	for n := range long {
		l := elements(n)
		p := peaksOf(l)
		p.Roots = append(slices.Clone(p.Roots), elements(9)...)[:len(p.Roots)]
		behind := slices.Clone(p.Roots[:cap(p.Roots)])
		left, right := p, p
		lefts, rights := slices.Clone(l), slices.Clone(l)
		for k := range 9 {
			x, y := element(1000+k), element(2000+k)
			left, right = isAdded(t, left, x), isAdded(t, right, y)
			lefts, rights = append(lefts, x), append(rights, y)
			if isTop(t, left) != rootOf(lefts) || isTop(t, right) != rootOf(rights) {
				t.Fatalf("P8.10: the lists that continue one of %d elements disturb each other", n)
			}
		}
		if isTop(t, p) != rootOf(l) || p.Size != n || !slices.Equal(p.Roots[:cap(p.Roots)], behind) {
			t.Fatalf("P8.7: Add changes peaks of Size %d", n)
		}
	}
}

// roomy returns a copy of a list with memory behind it, and that memory with the list.
func roomy(l []api.Digest) ([]api.Digest, []api.Digest) {
	whole := append(slices.Clone(l), elements(5)...)
	return whole[:len(l)], whole
}

// TestArguments checks that no function changes its arguments, nor the memory behind them.
func TestArguments(t *testing.T) {
	for n := 1; n <= 20; n++ {
		l, whole := roomy(elements(n))
		before := slices.Clone(whole)
		for i := range n {
			p, all := roomy(proofOf(l, i))
			q, rest := roomy(sub(l, i+1, true))
			peaks, roots := roomy(peaksOf(l).Roots)
			lists := [][]api.Digest{whole, all, rest, roots}
			copies := [][]api.Digest{before, slices.Clone(all), slices.Clone(rest), slices.Clone(roots)}
			merkle.Root(l)
			merkle.Prove(l, i)
			merkle.ProvePrefix(l, i+1)
			merkle.Verify(rootOf(l), n, i, l[i], p)
			merkle.VerifyPrefix(rootOf(l[:i+1]), rootOf(l), i+1, n, q)
			merkle.Clash(n, i, l[i], l[i], p, p)
			merkle.Clash(n, i, l[i], l[i], p, q)
			merkle.Add(api.Peaks{Size: n, Roots: peaks}, l[i])
			merkle.Top(api.Peaks{Size: n, Roots: peaks})
			for k := range lists {
				if !slices.Equal(lists[k], copies[k]) {
					t.Fatalf("P8.7: with %d elements a call changes list %d of its arguments", n, k)
				}
			}
		}
	}
}

// spoil changes all memory of a list.
func spoil(l []api.Digest) {
	l = l[:cap(l)]
	for i := range l {
		l[i] = element(-99)
	}
}

// TestResults checks that results are new memory: that they can be changed without a change of an argument or of another result, and the other way round.
func TestResults(t *testing.T) {
	for n := 1; n <= 20; n++ {
		for i := range n {
			l := elements(n)
			p, q, peaks := isProven(t, l, i), isGrown(t, l, i+1), isAdded(t, peaksOf(l), l[i])
			p2, q2, peaks2 := isProven(t, l, i), isGrown(t, l, i+1), isAdded(t, peaksOf(l), l[i])
			given := peaksOf(l)
			after := isAdded(t, given, l[i])
			spoil(p)
			spoil(q)
			spoil(peaks.Roots)
			spoil(after.Roots)
			if !slices.Equal(l, elements(n)) || !slices.Equal(given.Roots, peaksOf(l).Roots) {
				t.Fatalf("P8.7: results share memory with the arguments: %d of %d", i, n)
			}
			spoil(l)
			spoil(given.Roots)
			l = elements(n)
			if !slices.Equal(p2, proofOf(l, i)) || !slices.Equal(q2, sub(l, i+1, true)) || !slices.Equal(peaks2.Roots, added(peaksOf(l), l[i]).Roots) {
				t.Fatalf("P8.7: results share memory with each other: %d of %d", i, n)
			}
			given = peaksOf(l)
			after = isAdded(t, given, l[i])
			spoil(given.Roots)
			if !slices.Equal(after.Roots, peaks2.Roots) {
				t.Fatalf("P8.7: peaks of Size %d change with those that they were made from", n)
			}
		}
	}
}

// TestNoState checks that calls do not disturb each other, and that they can be repeated.
func TestNoState(t *testing.T) {
	var done sync.WaitGroup
	shared := elements(50)
	for k := range 8 {
		done.Go(func() {
			for i := range 50 {
				l := shared[:50-k]
				j := i % len(l)
				p, e := merkle.Prove(l, j)
				q, f := merkle.ProvePrefix(l, j+1)
				if e != api.OK || f != api.OK || !slices.Equal(p, proofOf(l, j)) || !slices.Equal(q, sub(l, j+1, true)) {
					t.Error("P8.2: a proof changes while others are made")
				}
				if !merkle.Verify(rootOf(l), len(l), j, l[j], p) || !merkle.VerifyPrefix(rootOf(l[:j+1]), merkle.Root(l), j+1, len(l), q) {
					t.Error("P8.3: a proof is not accepted while others are")
				}
				peaks, e := merkle.Add(peaksOf(l), element(k))
				top, f := merkle.Top(peaks)
				if e != api.OK || f != api.OK || top != rootOf(append(slices.Clone(l), element(k))) {
					t.Error("P8.7: peaks change while others are made")
				}
				merkle.Clash(len(l), j, l[j], l[j], p, q)
				merkle.Prove(l, -1)
				merkle.Top(api.Peaks{Size: -1})
			}
		})
	}
	done.Wait()
}

// TestExtreme calls all functions with numbers and lists out of all bounds (P1).
func TestExtreme(t *testing.T) {
	numbers := append([]int{0, 1, 2, 3, 64}, extremes...)
	for _, n := range numbers {
		for _, i := range numbers {
			for _, proof := range [][]api.Digest{nil, elements(1), elements(61), elements(62), elements(63), elements(64), elements(1000)} {
				isVerified(t, element(1), n, i, element(2), proof)
				isPrefixVerified(t, element(1), element(1), i, n, proof)
				isPrefixVerified(t, element(1), element(2), i, n, proof)
				isClash(t, n, i, element(1), element(2), proof, proof)
				isClash(t, n, i, element(1), element(1), proof, nil)
			}
		}
		isPromisedOfPeaks(t, api.Peaks{Size: n, Roots: elements(1)}, element(1))
		isPromisedOfPeaks(t, api.Peaks{Size: n, Roots: elements(1000)}, element(1))
	}
	long := make([]api.Digest, 1<<20)
	for _, n := range []int{1, 2, 1 << 20, 1<<20 + 1, math.MaxInt} {
		isRejected(t, api.Digest{}, n, 0, api.Digest{}, long)
		isPrefixRejected(t, api.Digest{}, api.Digest{}, 1, n, long)
		isNoClash(t, n, 0, api.Digest{}, element(1), long, long)
	}
	isRefused(t, api.Peaks{Size: 1, Roots: long})
}

// weakHash is a package hash of which collisions can be found, as its digests have only six bits that are not always 0.
const weakHash = `package hash

import (
	"crypto/sha256"

	"custody/api"
	"custody/wire"
)

type Stream struct{ text string }

func Begin() Stream                     { return Stream{} }
func (s Stream) Add(text string) Stream { return Stream{s.text + text} }
func (s Stream) Sum() [32]byte          { return Sum([]byte(s.text)) }
func Mac(key, text string) string       { return key + text }
func Equal(a, b string) bool            { return a == b }

func Sum(b []byte) [32]byte {
	sum := sha256.Sum256(b)
	return [32]byte{sum[0] & 63}
}

func Of(tag int, parts ...string) api.Digest {
	b := []byte{byte(tag)}
	for _, part := range parts {
		b = append(b, wire.Bytes(part)...)
	}
	sum := Sum(b)
	return api.Digest(sum[:api.DigestSize])
}
`

// overlay writes a file that tells the go command to take the weak hash for package hash, and returns its name.
func overlay(t *testing.T) string {
	folder := t.TempDir()
	source := filepath.Join(folder, "hash.go")
	replace := map[string]string{}
	files, err := filepath.Glob("../hash/*.go")
	if err != nil || len(files) == 0 {
		t.Fatal("no package hash:", err)
	}
	for _, file := range files {
		whole, err := filepath.Abs(file)
		if err != nil {
			t.Fatal(err)
		}
		replace[whole] = "" // no such file
	}
	whole, _ := filepath.Abs("../hash/hash.go")
	replace[whole] = source
	text, err := json.Marshal(map[string]any{"Replace": replace})
	if err != nil {
		t.Fatal(err)
	}
	name := filepath.Join(folder, "overlay.json")
	for file, content := range map[string]string{source: weakHash, name: string(text)} {
		if err := os.WriteFile(file, []byte(content), 0o600); err != nil {
			t.Fatal(err)
		}
	}
	return name
}

// TestCollisions checks what is promised about collisions with a weak hash, in tests that are built with it.
func TestCollisions(t *testing.T) {
	const inside = "MERKLE_TEST_WEAK"
	if weak {
		t.Run("Clash", collidingClash)
		t.Run("Proofs", collidingProofs)
		t.Run("History", collidingHistory)
		return
	}
	if os.Getenv(inside) != "" {
		t.Fatal("the weak hash is not used")
	}
	if testing.Short() {
		t.Skip("builds a program")
	}
	if out, err := exec.Command("go", "build", ".").CombinedOutput(); err != nil {
		t.Skipf("nothing can be built here: %v\n%s", err, out)
	}
	command := exec.Command("go", "test", "-overlay", overlay(t), "-run", "^TestCollisions$", ".")
	command.Env = append(os.Environ(), inside+"=1")
	if out, err := command.CombinedOutput(); err != nil {
		t.Fatalf("with a weak hash: %v\n%s", err, out)
	}
}

// near returns another element and proof that agree with the given ones in some of the last elements of the proof, or in all but the element, or in the element and many others.
func near(r *rand.Rand, a api.Digest, p []api.Digest) (api.Digest, []api.Digest) {
	q := slices.Clone(p)
	for j := range r.Intn(len(p) + 1) {
		if r.Intn(3) > 0 {
			q[j] = random(r, 1)[0]
		}
	}
	if r.Intn(3) == 0 {
		return a, q
	}
	return random(r, 1)[0], q
}

// fitting returns a random proof of the length that there has to be.
func fitting(r *rand.Rand, n, i int) []api.Digest {
	length := 0
	for n > 1 {
		length++
		if k := below(n); i < k {
			n = k
		} else {
			n, i = n-k, i-k
		}
	}
	return random(r, length)
}

// collidingClash compares Clash with P8.6 for computations that end in the same root, and checks that what it returns is a collision (P8.8).
func collidingClash(t *testing.T) {
	r := rand.New(rand.NewSource(6))
	var top, middle, bottom, several, equal int
	for range 40000 {
		n := 1 + r.Intn(20)
		if r.Intn(10) == 0 {
			n = huge[r.Intn(len(huge))]
		}
		i := r.Intn(n)
		a, p := random(r, 1)[0], fitting(r, n, i)
		b, q := near(r, a, p)
		root, _ := leads(n, i, a, p)
		if root == (api.Digest{}) { // what a proof without a root must not pass for
			for _, other := range [][]api.Digest{append(q, a), q[:len(q)/2], nil} {
				isClash(t, n, i, a, b, p, other)
				isClash(t, n, i, b, a, other, p)
			}
		}
		if !isVerified(t, root, n, i, b, q) {
			isNoClash(t, n, i, a, b, p, q)
			continue
		}
		if a == b && slices.Equal(p, q) {
			isNoClash(t, n, i, a, b, p, q)
			equal++
			continue
		}
		x, y, is := merkle.Clash(n, i, a, b, p, q)
		if !is || bytes.Equal(x, y) || digest(x) != digest(y) {
			t.Fatalf("P8.8: for %d of %d two proofs are accepted, but Clash returns %x, %x, %t", i, n, x, y, is)
		}
		isClash(t, n, i, a, b, p, q)
		isClash(t, n, i, b, a, q, p)
		isApart(t, n, i, a, b, p, q)
		var first, second inputs
		first.leads(n, i, a, p)
		second.leads(n, i, b, q)
		differ := 0
		for step := range first {
			if !bytes.Equal(first[step], second[step]) {
				differ++
			}
		}
		switch {
		case bytes.Equal(x, first[0]) && len(p) > 0:
			bottom++
		case bytes.Equal(x, first[len(p)]):
			top++
		default:
			middle++
		}
		if differ > 1 {
			several++
		}
	}
	if top < 200 || middle < 200 || bottom < 50 || several < 200 || equal < 200 {
		t.Errorf("P8.6: there are only %d, %d and %d collisions near the root, below it and at the leaf, %d with several steps, and %d without one", top, middle, bottom, several, equal)
	}
}

// isApart checks that the results of Clash are new memory.
func isApart(t *testing.T, n, i int, a, b api.Digest, p, q []api.Digest) {
	t.Helper()
	before, after := slices.Clone(p), slices.Clone(q)
	first, second, _ := clashOf(n, i, a, b, p, q)
	x, y, _ := merkle.Clash(n, i, a, b, p, q)
	clear(x[:cap(x)])
	again, more, _ := merkle.Clash(n, i, a, b, p, q)
	if !bytes.Equal(y, second) || !bytes.Equal(again, first) || !bytes.Equal(more, second) {
		t.Fatal("P8.6: the results of Clash share memory")
	}
	clear(y[:cap(y)])
	if !bytes.Equal(again, first) || !bytes.Equal(more, second) || !slices.Equal(p, before) || !slices.Equal(q, after) {
		t.Fatal("P8.6: the results of Clash share memory with others")
	}
}

// collidingProofs compares all functions with their promises for a hash with collisions.
func collidingProofs(t *testing.T) {
	r := rand.New(rand.NewSource(7))
	for range 500 {
		n := 1 + r.Intn(20)
		l, i := random(r, n), r.Intn(n)
		isVerified(t, merkle.Root(l), n, i, random(r, 1)[0], isProven(t, l, i))
		isPrefixVerified(t, random(r, 1)[0], merkle.Root(l), i+1, n, isGrown(t, l, i+1))
		proof := random(r, len(sub(l, i+1, true)))
		for old := range 64 {
			x := api.Digest{byte(old)}
			isPrefixVerified(t, x, digest(nil), i+1, n, proof)
			isPrefixVerified(t, x, rootOf(l), i+1, n, proof)
		}
	}
}

// collidingHistory checks that two elements that are both proved to be the one at an index, in a list and in a longer one of which it is a prefix, make a collision (P8.9).
func collidingHistory(t *testing.T) {
	r := rand.New(rand.NewSource(8))
	powers, others := 0, 0
	for range 200000 {
		n := 1 + r.Intn(6)
		m := 1 + r.Intn(n)
		i := r.Intn(m)
		a, b := random(r, 1)[0], random(r, 1)[0]
		p, q := fitting(r, m, i), fitting(r, n, i)
		var all inputs
		old, _ := all.leads(m, i, a, p)
		root, _ := all.leads(n, i, b, q)
		proof := random(r, len(sub(make([]api.Digest, n), m, true)))
		if !merkle.VerifyPrefix(old, root, m, n, proof) {
			continue
		}
		all.pair(old, m, n, true, proof)
		if !merkle.Verify(old, m, i, a, p) || !merkle.Verify(root, n, i, b, q) || !hasCollision(all) {
			t.Fatalf("P8.9: element %d of %d is another one than element %d of %d without a collision", i, m, i, n)
		}
		if m&(m-1) == 0 { // the old root itself is in the proof
			powers++
		} else {
			others++
		}
	}
	if powers < 500 || others < 100 {
		t.Errorf("P8.9: only %d histories of a power of 2 of elements are changed, and %d others", powers, others)
	}
}

// hasCollision tells whether two different inputs have the same digest.
func hasCollision(l inputs) bool {
	seen := map[api.Digest][]byte{}
	for _, b := range l {
		d := digest(b)
		if other, is := seen[d]; is && !bytes.Equal(other, b) {
			return true
		}
		seen[d] = b
	}
	return false
}

// FuzzMerkle finds panics, and results that differ from the promises (P1, P8.1 to P8.10).
func FuzzMerkle(f *testing.F) {
	f.Add(0, 0, 0, []byte{})
	f.Add(3, 1, 2, []byte("some bytes that are elements and more"))
	f.Add(math.MaxInt, math.MaxInt-1, 1, bytes.Repeat([]byte{7}, 70*16))
	f.Add(1<<32-1, 5, 3, bytes.Repeat([]byte{1, 2, 3}, 32*16))
	f.Add(-1, math.MinInt, 64, bytes.Repeat([]byte{1, 2, 3, 4, 5}, 999))
	f.Fuzz(func(t *testing.T, n, i, k int, b []byte) {
		var l []api.Digest
		for len(b) >= api.DigestSize && len(l) < 200 {
			l, b = append(l, api.Digest(b[:api.DigestSize])), b[api.DigestSize:]
		}
		leaf, length := element(k), len(l)
		if merkle.Root(l) != rootOf(l) || isTop(t, peaksOf(l)) != rootOf(l) {
			t.Fatalf("P8.10: the root of %d elements is wrong", length)
		}
		if i < 0 || i >= length {
			isNotProven(t, l, i)
			isNotGrown(t, l, max(i, i+1))
		} else {
			isVerified(t, rootOf(l), length, i, l[i], isProven(t, l, i))
			isVerified(t, rootOf(l), n, i, l[i], proofOf(l, i))
			isPrefixVerified(t, rootOf(l[:i+1]), rootOf(l), i+1, n, isGrown(t, l, i+1))
		}
		root, _ := leads(n, i, leaf, l)
		isVerified(t, root, n, i, leaf, l)
		isRejected(t, flip(root, k&127), n, i, leaf, l)
		isClash(t, n, i, leaf, leaf, l, l)
		isClash(t, n, i, leaf, element(k+1), l, l)
		if i >= 1 && i <= n {
			old, root, _ := new(inputs).pair(leaf, i, n, true, l)
			isPrefixVerified(t, old, root, i, n, l)
		}
		isPrefixVerified(t, leaf, leaf, i, n, l)
		isPromisedOfPeaks(t, api.Peaks{Size: n, Roots: l}, leaf)
		isPromisedOfPeaks(t, api.Peaks{Size: n, Roots: l[:min(length, bits.OnesCount(uint(n)))]}, leaf)
		isAdded(t, peaksOf(l), leaf)
	})
}
