package field_test

import (
	"bytes"
	"crypto/sha256"
	"encoding/hex"
	"math/rand"
	"slices"
	"sync"
	"testing"

	"custody/api"
	"custody/field"
)

// most is the greatest number of points.
const most = 255

// slowProduct is P6.1: the product of two polynomials over the field with two elements, and what is left of it after a division by 11d.
func slowProduct(a, b byte) byte {
	product := 0
	for i := range 8 {
		for j := range 8 {
			product ^= int(a) >> i & 1 * (int(b) >> j & 1) << (i + j)
		}
	}
	for i := 14; i >= 8; i-- {
		if product>>i&1 == 1 {
			product ^= 0x11d << (i - 8)
		}
	}
	return byte(product)
}

// table has the product of each two elements.
var table = func() (t [256][256]byte) {
	for a := range 256 {
		for b := range 256 {
			t[a][b] = slowProduct(byte(a), byte(b))
		}
	}
	return t
}()

// product returns a product of any number of elements.
func product(l ...byte) byte {
	p := byte(1)
	for _, a := range l {
		p = table[p][a]
	}
	return p
}

// power returns a product of k equal elements.
func power(a byte, k int) byte {
	return product(bytes.Repeat([]byte{a}, k)...)
}

// inverse returns the element whose product with a is 1, which it looks for.
func inverse(a byte) byte {
	return byte(bytes.IndexByte(table[a][:], 1))
}

// value is P6.2: the sum of the coefficients' products with the powers of x.
func value(poly []byte, x byte) byte {
	sum, p := byte(0), byte(1)
	for _, c := range poly {
		sum, p = sum^table[c][p], table[p][x]
	}
	return sum
}

// values returns the values of a polynomial at xs.
func values(poly, xs []byte) []byte {
	ys := make([]byte, len(xs))
	for i, x := range xs {
		ys[i] = value(poly, x)
	}
	return ys
}

// elements returns the n elements from first on.
func elements(first byte, n int) []byte {
	l := make([]byte, n)
	for i := range l {
		l[i] = first + byte(i)
	}
	return l
}

// different returns n different elements in a random order.
func different(r *rand.Rand, n int) []byte {
	l := elements(0, 256)
	r.Shuffle(256, func(i, j int) { l[i], l[j] = l[j], l[i] })
	return l[:n]
}

// anyBytes returns n random bytes.
func anyBytes(r *rand.Rand, n int) []byte {
	b := make([]byte, n)
	r.Read(b)
	return b
}

// xLists returns valid lists of xs: in order, in a random one, with and without 0 and 255, and of all sizes.
func xLists() [][]byte {
	r := rand.New(rand.NewSource(6))
	l := [][]byte{{0}, {1}, {255}, {0, 1}, {1, 0}, {255, 0}, {1, 2}, {0, 255, 128, 1}, elements(0, most), elements(1, most), elements(100, most), elements(250, 16)}
	for n := 1; n <= most; n++ {
		if n < 20 || n > 250 || n%32 < 2 {
			l = append(l, different(r, n))
		}
	}
	return l
}

// isWeights checks weights: that they make the values of x^0 to x^(n-1) at xs to their values at x, which no other weights do. It returns them.
func isWeights(t *testing.T, xs []byte, x byte) []byte {
	t.Helper()
	w, e := field.Weights(xs, x)
	if e != api.OK || len(w) != len(xs) {
		t.Fatalf("P6.3: Weights(%v, %d) are %d elements, error %d", xs, x, len(w), e)
	}
	want := byte(1)
	powers := bytes.Repeat([]byte{1}, len(xs))
	for k := range xs {
		sum := byte(0)
		for i := range powers {
			sum ^= table[w[i]][powers[i]]
			powers[i] = table[powers[i]][xs[i]]
		}
		if sum != want {
			t.Fatalf("P6.3: with Weights(%v, %d) the value of x^%d is %d, not %d", xs, x, k, sum, want)
		}
		want = table[want][x]
	}
	return w
}

// isCoefficients checks that there are as many coefficients as points, and that the polynomial goes through them. It returns the coefficients.
func isCoefficients(t *testing.T, xs, ys []byte) []byte {
	t.Helper()
	c, e := field.Coefficients(xs, ys)
	if e != api.OK || len(c) != len(xs) {
		t.Fatalf("P6.4: Coefficients(%v, %v) are %d elements, error %d", xs, ys, len(c), e)
	}
	for i, x := range xs {
		if value(c, x) != ys[i] || field.Eval(c, x) != ys[i] {
			t.Fatalf("P6.4: the polynomial through %v, %v is %d at %d", xs, ys, value(c, x), x)
		}
	}
	return c
}

// isValue checks an interpolated value.
func isValue(t *testing.T, xs, ys []byte, x, want byte) {
	t.Helper()
	if y, e := field.Interpolate(xs, ys, x); y != want || e != api.OK {
		t.Fatalf("P6.4: Interpolate(%v, %v, %d) is %d, not %d, error %d", xs, ys, x, y, want, e)
	}
}

// isPoly checks that a polynomial is found by its values at xs, and its value at x, too.
func isPoly(t *testing.T, poly, xs []byte, x byte) {
	t.Helper()
	ys := values(poly, xs)
	if c := isCoefficients(t, xs, ys); !bytes.Equal(c, poly) {
		t.Fatalf("P6.4: Coefficients(%v, %v) are %v, not %v", xs, ys, c, poly)
	}
	isValue(t, xs, ys, x, value(poly, x))
}

// isRefused checks that lists are refused, and that nothing else is returned.
func isRefused(t *testing.T, xs, ys []byte) {
	t.Helper()
	for _, x := range []byte{0, 1, 9, 255} {
		if y, e := field.Interpolate(xs, ys, x); y != 0 || e != api.ErrArg {
			t.Errorf("P6.4: Interpolate(%v, %v, %d) is %d, error %d", xs, ys, x, y, e)
		}
	}
	if c, e := field.Coefficients(xs, ys); len(c) != 0 || e != api.ErrArg {
		t.Errorf("P6.4: Coefficients(%v, %v) are %v, error %d", xs, ys, c, e)
	}
}

// isBad checks that xs are refused, with as many values as well.
func isBad(t *testing.T, xs []byte) {
	t.Helper()
	for _, x := range []byte{0, 1, 9, 255} {
		if w, e := field.Weights(xs, x); len(w) != 0 || e != api.ErrArg {
			t.Errorf("P6.3: Weights(%v, %d) are %v, error %d", xs, x, w, e)
		}
	}
	isRefused(t, xs, make([]byte, len(xs)))
	isRefused(t, xs, xs)
}

// isHash checks many bytes against what another implementation computes.
func isHash(t *testing.T, promise, name string, got []byte, want string) {
	t.Helper()
	sum := sha256.Sum256(got)
	if h := hex.EncodeToString(sum[:]); h != want {
		t.Errorf("%s: the hash of %s is %s, not %s", promise, name, h, want)
	}
}

// isHex checks bytes against what another implementation computes.
func isHex(t *testing.T, promise, name string, got []byte, want string) {
	t.Helper()
	if h := hex.EncodeToString(got); h != want {
		t.Errorf("%s: %s are %s, not %s", promise, name, h, want)
	}
}

// TestMulKnown checks the chapter's example, and products of another implementation.
func TestMulKnown(t *testing.T) {
	for _, x := range [][3]byte{{2, 128, 29}, {128, 2, 29}, {3, 7, 9}, {0x53, 0xca, 143}, {255, 255, 226}, {128, 128, 19}, {0, 9, 0}, {9, 0, 0}, {0, 0, 0}, {1, 200, 200}} {
		if got := field.Mul(x[0], x[1]); got != x[2] {
			t.Errorf("P6.1: Mul(%d, %d) is %d, not %d", x[0], x[1], got, x[2])
		}
	}
	var all, powers []byte
	for a := range 256 {
		for b := range 256 {
			all = append(all, field.Mul(byte(a), byte(b)))
		}
	}
	isHash(t, "P6.1", "all products", all, "003d1a609783d2740b9b3f00b0cd9e43e42c4f3eedc5ff54ec1709996d52e1e0")
	for p := byte(1); len(powers) < 32; p = field.Mul(p, 2) {
		powers = append(powers, p)
	}
	isHex(t, "P6.1", "the powers of 2", powers, "01020408102040801d3a74e8cd8713264c982d5ab475eac98f03060c183060c0")
}

// TestMul compares every product with P6.1.
func TestMul(t *testing.T) {
	for a := range 256 {
		for b := range 256 {
			if got, want := field.Mul(byte(a), byte(b)), slowProduct(byte(a), byte(b)); got != want {
				t.Fatalf("P6.1: Mul(%d, %d) is %d, not %d", a, b, got, want)
			}
		}
	}
}

// TestInvKnown checks the chapter's examples, and inverses of another implementation.
func TestInvKnown(t *testing.T) {
	for _, x := range [][2]byte{{2, 142}, {142, 2}, {1, 1}, {3, 244}, {255, 253}, {128, 27}} {
		if got, e := field.Inv(x[0]); got != x[1] || e != api.OK {
			t.Errorf("P6.1: Inv(%d) is %d, not %d, error %d", x[0], got, x[1], e)
		}
	}
	var all []byte
	for a := range most {
		i, _ := field.Inv(byte(a + 1))
		all = append(all, i)
	}
	isHash(t, "P6.1", "all inverses", all, "b63b19b94ea073262a0cef462032274bb8b05ec041d2b8dc949de9690db10228")
}

// TestInv checks every inverse, and that 0 has none.
func TestInv(t *testing.T) {
	for a := 1; a < 256; a++ {
		if i, e := field.Inv(byte(a)); e != api.OK || slowProduct(byte(a), i) != 1 {
			t.Errorf("P6.1: Inv(%d) is %d, error %d", a, i, e)
		}
	}
	if i, e := field.Inv(0); i != 0 || e != api.ErrArg {
		t.Errorf("P6.1: Inv(0) is %d, error %d", i, e)
	}
}

// TestDiv checks every quotient, the chapter's example among them, and that nothing is divided by 0.
func TestDiv(t *testing.T) {
	if q, e := field.Div(1, 2); q != 142 || e != api.OK {
		t.Errorf("P6.1: Div(1, 2) is %d, error %d", q, e)
	}
	var all []byte
	for a := range 256 {
		for b := 1; b < 256; b++ {
			q, e := field.Div(byte(a), byte(b))
			if e != api.OK || slowProduct(q, byte(b)) != byte(a) {
				t.Fatalf("P6.1: Div(%d, %d) is %d, error %d", a, b, q, e)
			}
			all = append(all, q)
		}
		if q, e := field.Div(byte(a), 0); q != 0 || e != api.ErrArg {
			t.Errorf("P6.1: Div(%d, 0) is %d, error %d", a, q, e)
		}
	}
	isHash(t, "P6.1", "all quotients", all, "6cf991df980f2342d9a67dc83a43e30ae65c02f9f7a10c0f170eae3a57ddfe49")
}

// TestEvalKnown checks the chapter's example, and values of another implementation.
func TestEvalKnown(t *testing.T) {
	if got := field.Eval([]byte{5, 3}, 2); got != 3 {
		t.Errorf("P6.2: Eval(5 3, 2) is %d", got)
	}
	poly := make([]byte, 300)
	for i := range poly {
		poly[i] = byte((i*i + 3*i) % 251)
	}
	var all []byte
	for x := range 256 {
		all = append(all, field.Eval(poly, byte(x)))
	}
	isHash(t, "P6.2", "the values of a polynomial of 300 coefficients", all, "f74cc59d8a026041a9a4a16ff0bd1a254c3b52f97f6a13e3ca2f9439fc8839dc")
}

// TestEval compares values with P6.2: of no, one and many coefficients, at every element.
func TestEval(t *testing.T) {
	r := rand.New(rand.NewSource(2))
	polys := [][]byte{nil, {}, {0}, {0, 0, 0}, {1}, {255}, {0, 1}, {1, 0}, {0, 0, 1}, elements(0, 256), bytes.Repeat([]byte{255}, 300), anyBytes(r, 70000)}
	for n := range 100 {
		polys = append(polys, anyBytes(r, n))
	}
	for _, poly := range polys {
		for x := range 256 {
			if got, want := field.Eval(poly, byte(x)), value(poly, byte(x)); got != want {
				t.Fatalf("P6.2: a polynomial of %d coefficients is %d at %d, not %d", len(poly), got, x, want)
			}
		}
		want := byte(0)
		if len(poly) > 0 {
			want = poly[0]
		}
		if got := field.Eval(poly, 0); got != want {
			t.Fatalf("P6.2: a polynomial of %d coefficients is %d at 0, not %d", len(poly), got, want)
		}
	}
}

// TestEvalShort checks every polynomial of one coefficient at every element, where it is that coefficient, and the empty one, which is 0.
func TestEvalShort(t *testing.T) {
	for x := range 256 {
		for c := range 256 {
			if got := field.Eval([]byte{byte(c)}, byte(x)); got != byte(c) {
				t.Fatalf("P6.2: Eval(%d, %d) is %d", c, x, got)
			}
		}
		if field.Eval(nil, byte(x)) != 0 || field.Eval([]byte{}, byte(x)) != 0 {
			t.Fatalf("P6.2: the zero polynomial is not 0 at %d", x)
		}
	}
}

// TestEvalLeadingZeros checks that leading coefficients that are 0 do not count, and that other ones do.
func TestEvalLeadingZeros(t *testing.T) {
	r := rand.New(rand.NewSource(3))
	for n := range 30 {
		poly := anyBytes(r, n)
		for _, zeros := range []int{1, 2, 255, 256, 1000} {
			longer := append(slices.Clone(poly), make([]byte, zeros)...)
			for x := range 256 {
				if got, want := field.Eval(longer, byte(x)), field.Eval(poly, byte(x)); got != want {
					t.Fatalf("P6.2: with %d leading zeros %v is %d at %d, not %d", zeros, poly, got, x, want)
				}
			}
			longer[len(longer)-1] = 7
			if got, want := field.Eval(longer, 9), field.Eval(poly, 9)^product(7, power(9, len(longer)-1)); got != want {
				t.Fatalf("P6.2: the coefficient %d does not count", len(longer)-1)
			}
		}
	}
}

// TestWeightsKnown checks the chapter's example, and weights of another implementation.
func TestWeightsKnown(t *testing.T) {
	var points []byte
	for i := range 20 {
		points = append(points, byte(37*i+200))
	}
	for _, x := range []struct {
		xs   []byte
		x    byte
		want string
	}{
		{[]byte{1, 2}, 0, "f5f4"},
		{[]byte{1, 2, 3}, 0, "010101"},
		{[]byte{1, 2, 3}, 2, "000100"},
		{[]byte{7}, 9, "01"},
		{[]byte{7}, 7, "01"},
		{[]byte{0, 255, 128, 1}, 77, "ba783ffc"},
		{elements(1, 16), 0, "739ce9a6c7b42ef56139e8d2d8c49aed"},
		{elements(1, 16), 17, "19b96b343959ccf0ee6c62f81914c473"},
		{elements(1, 16), 255, "169726545b0133d7302adc75a076a089"},
		{points, 3, "85b138433e0d21274812358cd7d1c9de531468a6"},
	} {
		isHex(t, "P6.3", "weights", isWeights(t, x.xs, x.x), x.want)
	}
	// Over the elements other than 0, the values of x^k add up to 0 for k from 1 to 254, and to 1 for k = 0.
	if w := isWeights(t, elements(1, most), 0); !bytes.Equal(w, bytes.Repeat([]byte{1}, most)) {
		t.Errorf("P6.3: the weights of all elements but 0 at 0 are %v", w)
	}
}

// TestWeights checks weights for lists of all sizes, at every element for the shorter ones, and that they add up to 1 (P6.5).
func TestWeights(t *testing.T) {
	for _, xs := range xLists() {
		step := 1
		if len(xs) > 64 {
			step = 51
		}
		for x := 0; x < 256; x += step {
			sum := byte(0)
			for _, w := range isWeights(t, xs, byte(x)) {
				sum ^= w
			}
			if sum != 1 {
				t.Fatalf("P6.5: Weights(%v, %d) add up to %d", xs, x, sum)
			}
		}
	}
}

// TestWeightsOneOrZero checks that a weight is 1 at its own element and 0 at the other ones.
func TestWeightsOneOrZero(t *testing.T) {
	for _, xs := range xLists() {
		for i, x := range xs {
			if len(xs) > 64 && i%17 != 0 && i != len(xs)-1 {
				continue
			}
			want := make([]byte, len(xs))
			want[i] = 1
			if w, e := field.Weights(xs, x); e != api.OK || !bytes.Equal(w, want) {
				t.Fatalf("P6.3: Weights(%v, %d) are %v, error %d", xs, x, w, e)
			}
		}
	}
}

// TestWeightsSmall checks the weights of every list of one and of two elements, with a formula for these.
func TestWeightsSmall(t *testing.T) {
	for a := range 256 {
		for _, x := range []byte{0, 1, byte(a), 100, 255} {
			if w, e := field.Weights([]byte{byte(a)}, x); e != api.OK || !bytes.Equal(w, []byte{1}) {
				t.Fatalf("P6.3: Weights(%d, %d) are %v, error %d", a, x, w, e)
			}
			for b := range 256 {
				if a == b {
					continue
				}
				below := inverse(byte(a) ^ byte(b))
				want := []byte{product(x^byte(b), below), product(x^byte(a), below)}
				if w, e := field.Weights([]byte{byte(a), byte(b)}, x); e != api.OK || !bytes.Equal(w, want) {
					t.Fatalf("P6.3: Weights(%d %d, %d) are %v, not %v, error %d", a, b, x, w, want, e)
				}
			}
		}
	}
}

// TestBadEmpty checks that an empty list is refused.
func TestBadEmpty(t *testing.T) {
	isBad(t, nil)
	isBad(t, []byte{})
	isBad(t, []byte{1, 2, 3}[:0])
}

// TestBadLong checks that 255 elements are accepted, but 256 different ones are not, and more are not either.
func TestBadLong(t *testing.T) {
	isWeights(t, elements(0, most), 0)
	isCoefficients(t, elements(7, most), elements(0, most))
	r := rand.New(rand.NewSource(4))
	for _, n := range []int{256, 257, 258, 300, 511, 512, 513, 1000, 65535, 65536, 65537} {
		isBad(t, elements(0, n))
		isBad(t, elements(1, n))
		isBad(t, make([]byte, n))
		isBad(t, anyBytes(r, n))
	}
	isBad(t, different(r, 256))
}

// TestBadTwice checks that an element that occurs twice is refused, wherever it does: in the first places, in the last ones, and apart.
func TestBadTwice(t *testing.T) {
	r := rand.New(rand.NewSource(5))
	for _, n := range []int{2, 3, 4, 5, 16, 17, 100, most} {
		xs := different(r, n)
		for _, x := range []byte{xs[0], xs[n-1]} {
			i := bytes.IndexByte(xs, x)
			for j := range xs {
				if j != i && (n < 100 || j < 2 || j > n-3 || j == n/2) {
					twice := slices.Clone(xs)
					twice[j] = x
					isBad(t, twice)
				}
			}
		}
		for i := range n - 1 {
			twice := slices.Clone(xs)
			twice[i+1] = twice[i]
			if _, e := field.Weights(twice, 3); e != api.ErrArg {
				t.Errorf("P6.3: Weights of %d elements, of which %d and %d are the same, have the error %d", n, i, i+1, e)
			}
		}
	}
	for x := range 256 {
		isBad(t, []byte{byte(x), byte(x)})
	}
	isBad(t, bytes.Repeat([]byte{9}, most))
	isBad(t, []byte{1, 2, 1, 2})
}

// TestBadLengths checks that lists of different lengths are refused, be they valid otherwise or not.
func TestBadLengths(t *testing.T) {
	sizes := []int{0, 1, 2, 3, 16, 254, 255, 256, 257, 512, 513, 65536 + 2}
	for _, m := range sizes {
		for _, n := range sizes {
			if m != n {
				isRefused(t, elements(0, m), elements(0, n))
				isRefused(t, elements(5, m), make([]byte, n))
			}
		}
	}
	isRefused(t, nil, []byte{0})
	isRefused(t, []byte{0}, nil)
	isRefused(t, []byte{1, 1}, []byte{1})
	isRefused(t, []byte{1}, []byte{1, 1})
}

// TestBadPoints checks that points are refused whose xs are not different, also if their values agree.
func TestBadPoints(t *testing.T) {
	isRefused(t, []byte{1, 1}, []byte{0, 0})
	isRefused(t, []byte{1, 1}, []byte{4, 9})
	isRefused(t, []byte{3, 1, 2, 1}, []byte{5, 5, 5, 5})
	isRefused(t, []byte{0, 0, 0}, []byte{1, 2, 3})
}

// TestPointsKnown checks the chapter's examples, and polynomials of another implementation.
func TestPointsKnown(t *testing.T) {
	isValue(t, []byte{1, 2}, []byte{6, 3}, 0, 5)
	var xs, ys []byte
	for i := range most {
		xs, ys = append(xs, byte(37*i+200)), append(ys, byte((i*i+3*i)%251))
	}
	for _, x := range []struct {
		xs, ys []byte
		want   string
	}{
		{[]byte{1, 2}, []byte{6, 3}, "0503"},
		{[]byte{1, 2, 3}, []byte{9, 8, 7}, "06fcf3"},
		{[]byte{3, 1, 2}, []byte{7, 9, 8}, "06fcf3"},
		{[]byte{0, 9}, []byte{4, 4}, "0400"},
		{[]byte{4, 5, 6}, []byte{8, 8, 8}, "080000"},
		{[]byte{77}, []byte{200}, "c8"},
		{xs[:20], ys[:20], "7d2ba7a998d47cec6b04118a9725dde59a7c1f1d"},
	} {
		isHex(t, "P6.4", "coefficients", isCoefficients(t, x.xs, x.ys), x.want)
	}
	isHash(t, "P6.4", "255 coefficients", isCoefficients(t, xs, ys), "60675701021189e5cf0327bb0043671f4874c79ca58ff0961b2586a5a087b46e")
	isValue(t, xs, ys, 163, 166) // the one element that is not among them
	isValue(t, xs, ys, 0, 116)
	isValue(t, xs[:20], ys[:20], 0, 125)
	isValue(t, xs[:20], ys[:20], 1, 30)
	isValue(t, xs[:20], ys[:20], 255, 45)
}

// TestPoints checks that every polynomial is found by its values, whatever its degree, and what it is at all sorts of x.
func TestPoints(t *testing.T) {
	r := rand.New(rand.NewSource(7))
	for _, xs := range xLists() {
		n := len(xs)
		var leading []byte
		if n > 2 {
			leading = append(anyBytes(r, n-2), 0, 0)
		}
		for _, poly := range [][]byte{anyBytes(r, n), make([]byte, n), append(anyBytes(r, n-1), 0), append(make([]byte, n-1), 1), bytes.Repeat([]byte{255}, n), leading} {
			if len(poly) == n {
				isPoly(t, poly, xs, byte(r.Intn(256)))
			}
			if len(poly) == n && n < 64 {
				for _, x := range []byte{0, 1, 255, xs[0], xs[n-1], xs[n/2]} {
					isPoly(t, poly, xs, x)
				}
			}
		}
	}
}

// TestPointsAt checks interpolated values at every element: those of the points at their xs, and those of the polynomial elsewhere.
func TestPointsAt(t *testing.T) {
	r := rand.New(rand.NewSource(8))
	for _, n := range []int{1, 2, 3, 4, 8, 16, 100, most} {
		xs, ys := different(r, n), anyBytes(r, n)
		c := isCoefficients(t, xs, ys)
		for x := range 256 {
			isValue(t, xs, ys, byte(x), value(c, byte(x)))
			if i := bytes.IndexByte(xs, byte(x)); i >= 0 && value(c, byte(x)) != ys[i] {
				t.Fatalf("P6.4: the polynomial through %v, %v is %d at %d", xs, ys, value(c, byte(x)), x)
			}
		}
	}
}

// TestPointsOne checks that the polynomial through one point is a constant.
func TestPointsOne(t *testing.T) {
	for a := range 256 {
		for y := range 256 {
			xs, ys := []byte{byte(a)}, []byte{byte(y)}
			isValue(t, xs, ys, byte(a)+1, byte(y))
			isValue(t, xs, ys, byte(a), byte(y))
			isValue(t, xs, ys, 0, byte(y))
			if c := isCoefficients(t, xs, ys); c[0] != byte(y) {
				t.Fatalf("P6.4: Coefficients(%d, %d) are %v", a, y, c)
			}
		}
	}
}

// TestPointsZero checks that values that are all 0 belong to the zero polynomial, which has as many coefficients as there are points.
func TestPointsZero(t *testing.T) {
	for _, xs := range xLists() {
		zeros := make([]byte, len(xs))
		if c := isCoefficients(t, xs, zeros); !bytes.Equal(c, zeros) {
			t.Fatalf("P6.4: the coefficients through zeros at %v are %v", xs, c)
		}
		for x := 0; x < 256; x += 15 {
			isValue(t, xs, zeros, byte(x), 0)
		}
	}
}

// orders returns all orders of the numbers below n.
func orders(n int) [][]int {
	if n == 0 {
		return [][]int{nil}
	}
	var l [][]int
	for _, o := range orders(n - 1) {
		for at := range n {
			l = append(l, slices.Insert(slices.Clone(o), at, n-1))
		}
	}
	return l
}

// in returns a list in another order.
func in(order []int, l []byte) []byte {
	var out []byte
	for _, i := range order {
		out = append(out, l[i])
	}
	return out
}

// TestOrder checks that points in another order have the same polynomial, and weights in that order (P6.5).
func TestOrder(t *testing.T) {
	r := rand.New(rand.NewSource(9))
	for _, n := range []int{1, 2, 3, 4, 5, 16, 100, most} {
		xs, ys, x := different(r, n), anyBytes(r, n), byte(r.Intn(256))
		c, w := isCoefficients(t, xs, ys), isWeights(t, xs, x)
		var all [][]int
		if n <= 5 {
			all = orders(n)
		} else {
			all = [][]int{r.Perm(n), r.Perm(n), r.Perm(n)}
		}
		for _, o := range all {
			if other := isCoefficients(t, in(o, xs), in(o, ys)); !bytes.Equal(other, c) {
				t.Fatalf("P6.5: in the order %v the coefficients are %v, not %v", o, other, c)
			}
			if other := isWeights(t, in(o, xs), x); !bytes.Equal(other, in(o, w)) {
				t.Fatalf("P6.5: in the order %v the weights are %v", o, other)
			}
			isValue(t, in(o, xs), in(o, ys), x, value(c, x))
		}
	}
}

// combined returns the sum of two lists, the second of which is multiplied by a factor.
func combined(a, b []byte, factor byte) []byte {
	l := make([]byte, len(a))
	for i := range l {
		l[i] = a[i] ^ table[b[i]][factor]
	}
	return l
}

// TestLinear checks that sums and multiples of values have the sums and multiples of the polynomials (P6.5).
func TestLinear(t *testing.T) {
	r := rand.New(rand.NewSource(10))
	for _, xs := range xLists() {
		n := len(xs)
		for _, factor := range []byte{1, 0, 2, 255, byte(r.Intn(256))} {
			a, b, x := anyBytes(r, n), anyBytes(r, n), byte(r.Intn(256))
			va, e := field.Interpolate(xs, a, x)
			vb, f := field.Interpolate(xs, b, x)
			if e != api.OK || f != api.OK {
				t.Fatal("P6.4:", e, f)
			}
			isValue(t, xs, combined(a, b, factor), x, va^product(vb, factor))
			want := combined(isCoefficients(t, xs, a), isCoefficients(t, xs, b), factor)
			if c := isCoefficients(t, xs, combined(a, b, factor)); !bytes.Equal(c, want) {
				t.Fatalf("P6.5: the coefficients at %v are not linear", xs)
			}
		}
		for i := range xs {
			one := make([]byte, n)
			one[i] = 1
			w, e := field.Weights(xs, 7)
			if e != api.OK {
				t.Fatal("P6.3:", e)
			}
			isValue(t, xs, one, 7, w[i])
			if n > 64 && i > 1 {
				break
			}
		}
	}
}

// TestExactlyOne goes through all polynomials of degree less than 1 and 2, and checks that exactly one of them goes through points, and that it is the one that is found (P6.5).
func TestExactlyOne(t *testing.T) {
	r := rand.New(rand.NewSource(11))
	for range 20 {
		for n := 1; n <= 2; n++ {
			xs, ys := different(r, n), anyBytes(r, n)
			var found [][]byte
			for code := range 1 << (8 * n) {
				poly := []byte{byte(code), byte(code >> 8)}[:n]
				if bytes.Equal(values(poly, xs), ys) {
					found = append(found, poly)
				}
			}
			if c := isCoefficients(t, xs, ys); len(found) != 1 || !bytes.Equal(found[0], c) {
				t.Fatalf("P6.5: through %v, %v go %v, and %v is found", xs, ys, found, c)
			}
		}
	}
}

// TestAllPoints checks that all values at two elements, and many at three, belong to different polynomials (P6.5).
func TestAllPoints(t *testing.T) {
	for _, xs := range [][]byte{{0, 1}, {5, 3}, {255, 254}} {
		seen := map[[2]byte]bool{}
		for code := range 1 << 16 {
			seen[[2]byte(isCoefficients(t, xs, []byte{byte(code), byte(code >> 8)}))] = true
		}
		if len(seen) != 1<<16 {
			t.Errorf("P6.5: through points at %v go %d polynomials", xs, len(seen))
		}
	}
	seen := map[[3]byte]bool{}
	for code := range 1 << 15 {
		seen[[3]byte(isCoefficients(t, []byte{9, 0, 200}, []byte{byte(code & 31), byte(code >> 5 & 31), byte(code >> 10)}))] = true
	}
	if len(seen) != 1<<15 {
		t.Errorf("P6.5: through points at three elements go %d polynomials", len(seen))
	}
}

// TestFewer checks that n - 1 points leave every value at 0 possible, with exactly one polynomial for each (P6.6).
func TestFewer(t *testing.T) {
	r := rand.New(rand.NewSource(12))
	for _, n := range []int{1, 2, 3, 4, 5, 16, 17, most} {
		step := 1
		if n == most {
			step = 15
		}
		others := elements(1, most)
		r.Shuffle(most, func(i, j int) { others[i], others[j] = others[j], others[i] })
		xs, ys := others[:n-1], anyBytes(r, n-1)
		last := map[byte]bool{}
		for v := 0; v < 256; v += step {
			c := isCoefficients(t, append(slices.Clone(xs), 0), append(slices.Clone(ys), byte(v)))
			if c[0] != byte(v) || field.Eval(c, 0) != byte(v) {
				t.Fatalf("P6.6: the polynomial that is %d at 0 has the coefficients %v", v, c)
			}
			first := isCoefficients(t, append([]byte{0}, xs...), append([]byte{byte(v)}, ys...))
			if !bytes.Equal(c, first) {
				t.Fatalf("P6.6: %v and %v are both %d at 0", c, first, v)
			}
			last[c[n-1]] = true
		}
		if len(last) != (255+step)/step {
			t.Errorf("P6.6: with %d points only %d leading coefficients occur", n-1, len(last))
		}
	}
}

// TestFewerExactlyOne goes through all polynomials of degree less than 2, and checks that for each value at 0 exactly one of those through one point has it (P6.6).
func TestFewerExactlyOne(t *testing.T) {
	for x := 1; x < 256; x += 23 {
		for y := 0; y < 256; y += 51 {
			var count [256]int
			for code := range 1 << 16 {
				poly := []byte{byte(code), byte(code >> 8)}
				if field.Eval(poly, byte(x)) == byte(y) {
					count[field.Eval(poly, 0)]++
				}
			}
			for v, n := range count {
				if n != 1 {
					t.Fatalf("P6.6: %d polynomials through (%d, %d) are %d at 0", n, x, y, v)
				}
			}
		}
	}
}

// TestFewerHidden checks that each further point moves the value at 0 to every element: n - 1 points and any value at another element belong to different values at 0 (P6.6).
func TestFewerHidden(t *testing.T) {
	r := rand.New(rand.NewSource(13))
	for n := 1; n <= 20; n++ {
		others := elements(1, most)
		r.Shuffle(most, func(i, j int) { others[i], others[j] = others[j], others[i] })
		xs, ys := others[:n], anyBytes(r, n)
		seen := map[byte]bool{}
		for v := range 256 {
			ys[n-1] = byte(v)
			at, e := field.Interpolate(xs, ys, 0)
			if e != api.OK {
				t.Fatal("P6.4:", e)
			}
			seen[at] = true
		}
		if len(seen) != 256 {
			t.Errorf("P6.6: %d points restrict the value at 0 to %d elements", n-1, len(seen))
		}
	}
}

// TestArguments checks that arguments are not changed, nor the memory behind them, and that results do not change with them.
func TestArguments(t *testing.T) {
	r := rand.New(rand.NewSource(14))
	for _, n := range []int{1, 2, 3, 16, 100, most} {
		xs, ys := different(r, 256), anyBytes(r, 300)
		xsBefore, ysBefore := slices.Clone(xs), slices.Clone(ys)
		x := byte(r.Intn(256))
		w := isWeights(t, xs[:n], x)
		c := isCoefficients(t, xs[:n], ys[:n])
		isValue(t, xs[:n], ys[:n], x, value(c, x))
		field.Eval(ys[:n], x)
		isBad(t, xs)
		isBad(t, xs[:0])
		isRefused(t, xs[:n], ys[:n+1])
		if !bytes.Equal(xs, xsBefore) || !bytes.Equal(ys, ysBefore) {
			t.Fatalf("P6.4: the arguments of %d points are changed", n)
		}
		wBefore, cBefore := slices.Clone(w), slices.Clone(c)
		clear(xs)
		clear(ys)
		if !bytes.Equal(w, wBefore) || !bytes.Equal(c, cBefore) {
			t.Fatalf("P6.4: the results for %d points change with the arguments", n)
		}
	}
}

// TestResults checks that results are new memory: changing one, or writing behind it, changes neither arguments nor other results.
func TestResults(t *testing.T) {
	r := rand.New(rand.NewSource(15))
	for _, n := range []int{1, 2, 3, 16, 100, most} {
		xs, ys := different(r, n), anyBytes(r, n)
		xsBefore, ysBefore := slices.Clone(xs), slices.Clone(ys)
		w, c := isWeights(t, xs, 5), isCoefficients(t, xs, ys)
		sameW, sameC := isWeights(t, xs, 5), isCoefficients(t, xs, ys)
		wantW, wantC := slices.Clone(w), slices.Clone(c)
		for _, l := range [][]byte{w, c} {
			whole := l[:cap(l)]
			for i := range whole {
				whole[i] ^= 0xa5
			}
		}
		if !bytes.Equal(xs, xsBefore) || !bytes.Equal(ys, ysBefore) {
			t.Fatalf("P6.4: results for %d points share memory with the arguments", n)
		}
		if !bytes.Equal(sameW, wantW) || !bytes.Equal(sameC, wantC) {
			t.Fatalf("P6.4: two results for %d points share memory", n)
		}
		if !bytes.Equal(isWeights(t, xs, 5), wantW) || !bytes.Equal(isCoefficients(t, xs, ys), wantC) {
			t.Fatalf("P6.4: later results for %d points change with earlier ones", n)
		}
	}
}

// TestNoState checks that calls do not disturb each other.
func TestNoState(t *testing.T) {
	var all sync.WaitGroup
	shared := different(rand.New(rand.NewSource(16)), 12)
	for i := range 8 {
		r := rand.New(rand.NewSource(int64(i)))
		poly, x := anyBytes(r, 12), byte(r.Intn(256))
		ys, want := values(poly, shared), value(poly, x)
		all.Go(func() {
			for range 200 {
				if y, e := field.Interpolate(shared, ys, x); e != api.OK || y != want {
					t.Error("P6.4: a value changes while others are interpolated")
				}
				if c, e := field.Coefficients(shared, ys); e != api.OK || !bytes.Equal(c, poly) {
					t.Error("P6.4: coefficients change while others are computed")
				}
				if field.Eval(poly, x) != want {
					t.Error("P6.2: a value changes while others are computed")
				}
			}
		})
	}
	all.Wait()
}

// arePoints is what the chapter calls points.
func arePoints(xs, ys []byte) bool {
	if len(xs) != len(ys) || len(xs) < 1 || len(xs) > most {
		return false
	}
	for _, x := range xs {
		if bytes.Count(xs, []byte{x}) > 1 {
			return false
		}
	}
	return true
}

// FuzzField finds panics, and results that differ from the promises (P1, P6.1 to P6.6).
func FuzzField(f *testing.F) {
	f.Add([]byte(nil), []byte(nil), byte(0))
	f.Add([]byte{1, 2}, []byte{6, 3}, byte(0))
	f.Add([]byte{1, 1}, []byte{0, 0}, byte(1))
	f.Add([]byte{1, 2}, []byte{6}, byte(9))
	f.Add(elements(0, 256), elements(0, 256), byte(7))
	f.Add(elements(1, most), elements(0, most), byte(0))
	f.Fuzz(func(t *testing.T, xs, ys []byte, x byte) {
		if field.Eval(ys, x) != value(ys, x) || field.Eval(xs, x) != value(xs, x) {
			t.Fatalf("P6.2: Eval at %d", x)
		}
		if !arePoints(xs, xs) {
			isBad(t, xs)
			isRefused(t, xs, ys)
			return
		}
		w := isWeights(t, xs, x)
		if !arePoints(xs, ys) {
			isRefused(t, xs, ys)
			ys = append(slices.Clone(ys), make([]byte, len(xs))...)[:len(xs)]
		}
		want := byte(0)
		for i := range w {
			want ^= table[w[i]][ys[i]]
		}
		c := isCoefficients(t, xs, ys)
		isValue(t, xs, ys, x, want)
		isPoly(t, c, xs, x)
		if !slices.Contains(xs, 0) && len(xs) < most {
			more := isCoefficients(t, append([]byte{0}, xs...), append([]byte{x}, ys...))
			if more[0] != x {
				t.Fatalf("P6.6: the polynomial with the value %d at 0 is %v", x, more)
			}
		}
	})
}
