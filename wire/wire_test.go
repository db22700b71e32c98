package wire_test

import (
	"bytes"
	"math"
	"math/big"
	"math/rand"
	"runtime"
	"slices"
	"strings"
	"testing"

	"custody/api"
	"custody/wire"
)

// codec is a pair of functions for values of one type.
type codec[T any] struct {
	name   string
	encode func(T) []byte
	decode func([]byte) (T, int, api.Errno)
	same   func(a, b T) bool
}

var (
	ints    = codec[int]{"Int", wire.Int, wire.GetInt, func(a, b int) bool { return a == b }}
	texts   = codec[string]{"Bytes", wire.Bytes, wire.GetBytes, func(a, b string) bool { return a == b }}
	intss   = codec[[]int]{"Ints", wire.Ints, wire.GetInts, slices.Equal[[]int]}
	textss  = codec[[]string]{"Strings", wire.Strings, wire.GetStrings, slices.Equal[[]string]}
	digests = codec[[]api.Digest]{"Digests", wire.Digests, wire.GetDigests, slices.Equal[[]api.Digest]}
)

// failure is an invalid encoding and the error that it yields.
type failure struct {
	b []byte
	e api.Errno
}

// fails checks errors, and that the other results are zero with each of them.
func (c codec[T]) fails(t *testing.T, promise string, l []failure) {
	t.Helper()
	var none T
	for i, x := range l {
		if v, used, e := c.decode(x.b); e != x.e || used != 0 || !c.same(v, none) {
			t.Fatalf("%s: %s: error %d: % d yields %v, %d, %d, not error %d", promise, c.name, i, x.b, v, used, e, x.e)
		}
	}
}

// keeps checks that a value has an encoding, and that it and nothing shorter is decoded to the value.
func (c codec[T]) keeps(t *testing.T, promise string, v T, want []byte) {
	t.Helper()
	b := c.encode(v)
	if !bytes.Equal(b, want) {
		t.Fatalf("%s: %s(%v) is % d, not % d", promise, c.name, v, b, want)
	}
	for _, tail := range [][]byte{nil, {0}, {128}, {255}, {129, 1, 127}, bytes.Repeat([]byte{128}, 40)} {
		text := append(slices.Clone(b), tail...)
		if w, used, e := c.decode(text); !c.same(v, w) || used != len(b) || e != api.OK {
			t.Fatalf("%s: Get%s(% d) is %v, %d, %d, not %v, %d", promise, c.name, text, w, used, e, v, len(b))
		}
	}
	for i := range b {
		c.fails(t, promise, []failure{{b[:i], api.ErrTruncated}})
	}
}

// canonical checks that what is decoded from b, if anything, is encoded as the bytes that were consumed.
func (c codec[T]) canonical(t *testing.T, b []byte) {
	t.Helper()
	var none T
	before := slices.Clone(b)
	v, used, e := c.decode(b)
	if !bytes.Equal(b, before) {
		t.Fatalf("P1: Get%s changes % d to % d", c.name, before, b)
	}
	switch e {
	case api.OK:
		if used < 1 || used > len(b) || !bytes.Equal(c.encode(v), b[:used]) {
			t.Fatalf("P1.6: Get%s(% d) is %v, %d, whose encoding is % d", c.name, b, v, used, c.encode(v))
		}
	case api.ErrTruncated, api.ErrEncoding:
		if used != 0 || !c.same(v, none) {
			t.Fatalf("P1.6: Get%s(% d) is %v, %d together with error %d", c.name, b, v, used, e)
		}
	default:
		t.Fatalf("P1.6: Get%s(% d) yields error %d", c.name, b, e)
	}
}

// allCanonical does the same for all types.
func allCanonical(t *testing.T, b []byte) {
	t.Helper()
	ints.canonical(t, b)
	texts.canonical(t, b)
	intss.canonical(t, b)
	textss.canonical(t, b)
	digests.canonical(t, b)
}

// numbers returns integers in increasing order: all small ones, those next to the bounds of every length, and others.
func numbers() []int {
	l := []int{math.MinInt, math.MinInt + 1, math.MaxInt - 1, math.MaxInt}
	for n := -1100; n <= 1100; n++ {
		l = append(l, n)
	}
	for shift := range 63 {
		for n := -3; n <= 3; n++ {
			l = append(l, 1<<shift+n, -(1<<shift)+n)
		}
	}
	r := rand.New(rand.NewSource(1))
	for range 2000 {
		n := int(r.Uint64()) >> r.Intn(64)
		l = append(l, n, n&^0xff00, n|0xff00)
	}
	slices.Sort(l)
	return slices.Compact(l)
}

// encoded is P1.1 with integers of unlimited size.
func encoded(n int) []byte {
	if n >= 0 {
		m := big.NewInt(int64(n)).Bytes()
		return append([]byte{byte(128 + len(m))}, m...)
	}
	m := new(big.Int).Sub(big.NewInt(-1), big.NewInt(int64(n))).Bytes()
	b := []byte{byte(127 - len(m))}
	for _, c := range m {
		b = append(b, 255-c)
	}
	return b
}

// decoded is P1.2 with integers of unlimited size.
func decoded(b []byte) (int, int, api.Errno) {
	if len(b) == 0 {
		return 0, 0, api.ErrTruncated
	}
	if b[0] < 119 || b[0] > 136 {
		return 0, 0, api.ErrEncoding
	}
	negative, k := b[0] < 128, int(b[0])-128
	if negative {
		k = 127 - int(b[0])
	}
	if len(b) < 1+k {
		return 0, 0, api.ErrTruncated
	}
	digits := slices.Clone(b[1 : 1+k])
	for i, c := range digits {
		if negative {
			digits[i] = 255 - c
		}
	}
	m := new(big.Int).SetBytes(digits)
	if len(m.Bytes()) != k || m.BitLen() > 63 {
		return 0, 0, api.ErrEncoding
	}
	if negative {
		m.Sub(big.NewInt(-1), m)
	}
	return int(m.Int64()), 1 + k, api.OK
}

func TestInt(t *testing.T) {
	for _, x := range []struct {
		n int
		b []byte
	}{
		{0, []byte{128}},
		{1, []byte{129, 1}},
		{2, []byte{129, 2}},
		{255, []byte{129, 255}},
		{256, []byte{130, 1, 0}},
		{65535, []byte{130, 255, 255}},
		{65536, []byte{131, 1, 0, 0}},
		{1 << 24, []byte{132, 1, 0, 0, 0}},
		{1 << 32, []byte{133, 1, 0, 0, 0, 0}},
		{1 << 40, []byte{134, 1, 0, 0, 0, 0, 0}},
		{1 << 48, []byte{135, 1, 0, 0, 0, 0, 0, 0}},
		{1 << 56, []byte{136, 1, 0, 0, 0, 0, 0, 0, 0}},
		{math.MaxInt, []byte{136, 127, 255, 255, 255, 255, 255, 255, 255}},
		{-1, []byte{127}},
		{-2, []byte{126, 254}},
		{-255, []byte{126, 1}},
		{-256, []byte{126, 0}},
		{-257, []byte{125, 254, 255}},
		{-65536, []byte{125, 0, 0}},
		{-65537, []byte{124, 254, 255, 255}},
		{-1<<56 - 1, []byte{119, 254, 255, 255, 255, 255, 255, 255, 255}},
		{math.MinInt, []byte{119, 128, 0, 0, 0, 0, 0, 0, 0}},
	} {
		ints.keeps(t, "P1.1", x.n, x.b)
	}
	for _, n := range numbers() {
		ints.keeps(t, "P1.1", n, encoded(n))
	}
}

func TestGetIntErrors(t *testing.T) {
	ints.fails(t, "P1.2", []failure{
		{nil, api.ErrTruncated},
		{[]byte{}, api.ErrTruncated},
		// The first byte is looked at before what follows it.
		{[]byte{0}, api.ErrEncoding},
		{[]byte{118}, api.ErrEncoding},
		{[]byte{137}, api.ErrEncoding},
		{[]byte{255}, api.ErrEncoding},
		{[]byte{118, 1, 1, 1, 1, 1, 1, 1, 1, 1}, api.ErrEncoding},
		{[]byte{137, 1, 1, 1, 1, 1, 1, 1, 1, 1}, api.ErrEncoding},
		// The number of bytes is looked at before the bytes.
		{[]byte{129}, api.ErrTruncated},
		{[]byte{126}, api.ErrTruncated},
		{[]byte{119}, api.ErrTruncated},
		{[]byte{136}, api.ErrTruncated},
		{[]byte{130, 0}, api.ErrTruncated},
		{[]byte{125, 255}, api.ErrTruncated},
		{[]byte{136, 255, 0, 0, 0, 0, 0, 0}, api.ErrTruncated},
		{[]byte{119, 0, 0, 0, 0, 0, 0, 0}, api.ErrTruncated},
		// Not the shortest form.
		{[]byte{129, 0}, api.ErrEncoding},
		{[]byte{126, 255}, api.ErrEncoding},
		{[]byte{130, 0, 1}, api.ErrEncoding},
		{[]byte{130, 0, 255}, api.ErrEncoding},
		{[]byte{125, 255, 254}, api.ErrEncoding},
		{[]byte{125, 255, 0}, api.ErrEncoding},
		{[]byte{136, 0, 1, 2, 3, 4, 5, 6, 7}, api.ErrEncoding},
		{[]byte{119, 255, 1, 2, 3, 4, 5, 6, 7}, api.ErrEncoding},
		// Greater than 2^63 - 1.
		{[]byte{136, 128, 0, 0, 0, 0, 0, 0, 0}, api.ErrEncoding},
		{[]byte{136, 255, 255, 255, 255, 255, 255, 255, 255}, api.ErrEncoding},
		{[]byte{119, 127, 255, 255, 255, 255, 255, 255, 255}, api.ErrEncoding},
		{[]byte{119, 0, 0, 0, 0, 0, 0, 0, 0}, api.ErrEncoding},
	})
}

// TestGetIntAll compares GetInt with P1.2 for all first bytes and all numbers of bytes after them.
func TestGetIntAll(t *testing.T) {
	compare := func(b []byte) {
		t.Helper()
		n, used, e := wire.GetInt(b)
		if m, most, f := decoded(b); n != m || used != most || e != f {
			t.Fatalf("P1.2: GetInt(% d) is %d, %d, %d, not %d, %d, %d", b, n, used, e, m, most, f)
		}
	}
	ends := []byte{0, 1, 127, 128, 254, 255}
	for first := range 256 {
		compare([]byte{byte(first)})
		for second := range 256 {
			compare([]byte{byte(first), byte(second)})
			for size := range 9 {
				for _, c := range ends {
					compare(append([]byte{byte(first), byte(second)}, bytes.Repeat([]byte{c}, size)...))
				}
			}
		}
	}
}

func TestBytes(t *testing.T) {
	for _, s := range []string{"", "a", "ab", "\x00", "\x80\x81\xff", "é", strings.Repeat("x", 255), strings.Repeat("y", 256), strings.Repeat("z", 257), strings.Repeat("\x00", 3000)} {
		texts.keeps(t, "P1.3", s, append(encoded(len(s)), s...))
	}
	texts.keeps(t, "P1.3", "ab", []byte{129, 2, 97, 98})
	texts.fails(t, "P1.3", []failure{
		{nil, api.ErrTruncated},
		{[]byte{118}, api.ErrEncoding},
		{[]byte{137, 97}, api.ErrEncoding},
		{[]byte{129}, api.ErrTruncated},
		{[]byte{129, 0}, api.ErrEncoding},
		{[]byte{130, 0, 1, 97}, api.ErrEncoding},
		{[]byte{127}, api.ErrEncoding},
		{[]byte{126, 254, 97}, api.ErrEncoding},
		{encoded(math.MinInt), api.ErrEncoding},
		{[]byte{129, 1}, api.ErrTruncated},
		{[]byte{129, 3, 97, 98}, api.ErrTruncated},
		{append(encoded(1<<40), 97, 98), api.ErrTruncated},
		{append(encoded(math.MaxInt), 97, 98), api.ErrTruncated},
	})
}

// lengths are the errors of the length of a list; all lists have them.
func lengths() []failure {
	rest := bytes.Repeat([]byte{128}, 100)
	return []failure{
		{nil, api.ErrTruncated},
		{[]byte{118}, api.ErrEncoding},
		{append([]byte{137}, rest...), api.ErrEncoding},
		{append([]byte{0}, rest...), api.ErrEncoding},
		{[]byte{129}, api.ErrTruncated},
		{[]byte{130, 1}, api.ErrTruncated},
		{append([]byte{129, 0}, rest...), api.ErrEncoding},
		{append([]byte{130, 0, 1}, rest...), api.ErrEncoding},
		{[]byte{127}, api.ErrEncoding},
		{append([]byte{127}, rest...), api.ErrEncoding},
		{append([]byte{126, 254}, rest...), api.ErrEncoding},
		{append(encoded(math.MinInt), rest...), api.ErrEncoding},
		{append(encoded(-1<<60), rest...), api.ErrEncoding},
		{[]byte{129, 1}, api.ErrTruncated},
		{append([]byte{129, 101}, rest...), api.ErrTruncated},
		{append(encoded(1<<32), rest...), api.ErrTruncated},
		{append(encoded(math.MaxInt), rest...), api.ErrTruncated},
	}
}

func TestInts(t *testing.T) {
	intss.keeps(t, "P1.4", []int{1, -1}, []byte{129, 2, 129, 1, 127})
	for _, l := range [][]int{nil, {}, {0}, {-1}, {0, 0, 0}, {256, -257, math.MaxInt, math.MinInt, 5}, make([]int, 300), numbers()[:200]} {
		want := encoded(len(l))
		for _, n := range l {
			want = append(want, encoded(n)...)
		}
		intss.keeps(t, "P1.4", l, want)
	}
	intss.fails(t, "P1.4", lengths())
	intss.fails(t, "P1.4", []failure{
		// Too few bytes are noticed before the first element is looked at.
		{[]byte{129, 2, 118}, api.ErrTruncated},
		{[]byte{129, 3, 137, 129}, api.ErrTruncated},
		// The first element that cannot be decoded decides.
		{[]byte{129, 2, 118, 129}, api.ErrEncoding},
		{[]byte{129, 2, 128, 118}, api.ErrEncoding},
		{[]byte{129, 2, 128, 130}, api.ErrTruncated},
		{[]byte{129, 2, 129, 1}, api.ErrTruncated},
		{[]byte{129, 2, 129, 0, 129}, api.ErrEncoding},
		{[]byte{129, 1, 126, 255}, api.ErrEncoding},
		{[]byte{129, 2, 130, 1}, api.ErrTruncated},
	})
}

func TestStrings(t *testing.T) {
	textss.keeps(t, "P1.5", []string{"", "a"}, []byte{129, 2, 128, 129, 1, 97})
	for _, l := range [][]string{nil, {}, {""}, {"", "", ""}, {"a", "", "bc"}, {"\x80", "\x7f", "\x00"}, {strings.Repeat("x", 256), "y"}, make([]string, 300)} {
		want := encoded(len(l))
		for _, s := range l {
			want = append(append(want, encoded(len(s))...), s...)
		}
		textss.keeps(t, "P1.5", l, want)
	}
	textss.fails(t, "P1.5", lengths())
	textss.fails(t, "P1.5", []failure{
		// Too few bytes are noticed before the first element is looked at.
		{[]byte{129, 2, 127}, api.ErrTruncated},
		{[]byte{129, 3, 118, 128}, api.ErrTruncated},
		// The first element that cannot be decoded decides.
		{[]byte{129, 2, 127, 129}, api.ErrEncoding},
		{[]byte{129, 2, 118, 129}, api.ErrEncoding},
		{[]byte{129, 2, 128, 137}, api.ErrEncoding},
		{[]byte{129, 2, 128, 127}, api.ErrEncoding},
		{[]byte{129, 2, 128, 129}, api.ErrTruncated},
		{[]byte{129, 2, 128, 129, 2, 97}, api.ErrTruncated},
		{[]byte{129, 2, 129, 1, 97}, api.ErrTruncated},
		{[]byte{129, 2, 129, 9, 118}, api.ErrTruncated},
		{[]byte{129, 1, 129, 0}, api.ErrEncoding},
	})
}

func TestDigests(t *testing.T) {
	first := api.Digest{1, 2, 3, 15: 9}
	full := api.Digest(bytes.Repeat([]byte{255}, api.DigestSize))
	for _, l := range [][]api.Digest{nil, {}, {{}}, {first}, {first, {}, full}, {full, first}, make([]api.Digest, 260)} {
		want := encoded(len(l))
		for _, d := range l {
			for _, c := range d {
				want = append(want, c)
			}
		}
		digests.keeps(t, "P1.8", l, want)
	}
	digests.fails(t, "P1.8", lengths())
	rest := make([]byte, 64)
	digests.fails(t, "P1.8", []failure{
		{[]byte{129, 1}, api.ErrTruncated},
		{append([]byte{129, 1}, rest[:15]...), api.ErrTruncated},
		{append([]byte{129, 2}, rest[:31]...), api.ErrTruncated},
		{append([]byte{129, 5}, rest...), api.ErrTruncated},
		// The number of bytes of these lists does not fit into 64 bits.
		{append(encoded(1<<59), rest...), api.ErrTruncated},
		{append(encoded(1<<60), rest...), api.ErrTruncated},
		{append(encoded(1<<60+1), rest...), api.ErrTruncated},
		{append(encoded(1<<60+4), rest...), api.ErrTruncated},
		{append(encoded(1<<62+1), rest...), api.ErrTruncated},
	})
}

// TestCanonical decodes many byte sequences, most of which are nearly encodings.
func TestCanonical(t *testing.T) {
	allCanonical(t, nil)
	edges := []byte{0, 1, 2, 97, 118, 119, 125, 126, 127, 128, 129, 130, 131, 136, 137, 255}
	for _, a := range edges {
		for _, b := range edges {
			for _, c := range edges {
				for _, d := range edges {
					text := []byte{a, b, c, d, 129, 1}
					for size := 1; size <= len(text); size++ {
						allCanonical(t, text[:size])
					}
				}
			}
		}
	}
	r := rand.New(rand.NewSource(2))
	start := [][]byte{
		wire.Int(math.MaxInt),
		wire.Int(math.MinInt),
		wire.Bytes("custody"),
		wire.Ints([]int{0, 1, -1, 256, -257, math.MinInt}),
		wire.Strings([]string{"", "a", "policy", "\x80\x7f"}),
		wire.Digests(make([]api.Digest, 3)),
	}
	for range 20000 {
		b := slices.Clone(start[r.Intn(len(start))])
		for range 1 + r.Intn(3) {
			b[r.Intn(len(b))] = byte(128 + r.Intn(8) - r.Intn(8))
		}
		b = append(b, make([]byte, r.Intn(20))...)
		allCanonical(t, b[:r.Intn(len(b)+1)])
	}
}

func TestOrder(t *testing.T) {
	l := numbers()
	for i, n := range l {
		b := wire.Int(n)
		if len(b) > 9 {
			t.Fatalf("P1.7: Int(%d) has %d bytes", n, len(b))
		}
		if i > 0 && bytes.Compare(wire.Int(l[i-1]), b) >= 0 {
			t.Fatalf("P1.7: Int(%d) does not precede Int(%d)", l[i-1], n)
		}
	}
	r := rand.New(rand.NewSource(3))
	for range 20000 {
		m, n := l[r.Intn(len(l))], l[r.Intn(len(l))]
		if bytes.Compare(wire.Int(m), wire.Int(n)) < 0 != (m < n) {
			t.Fatalf("P1.7: Int(%d) and Int(%d) are out of order", m, n)
		}
	}
}

// TestMemory checks that results are new memory.
func TestMemory(t *testing.T) {
	b := wire.Bytes("custody")
	s, _, _ := wire.GetBytes(b)
	clear(b)
	if s != "custody" {
		t.Errorf("P1.3: the string becomes %q when its encoding is changed", s)
	}
	d := []api.Digest{{1}, {2}}
	b = wire.Digests(d)
	got, _, _ := wire.GetDigests(b)
	clear(b)
	if !slices.Equal(got, []api.Digest{{1}, {2}}) {
		t.Errorf("P1.8: the digests become %v when their encoding is changed", got)
	}
	b = wire.Digests(d)
	clear(d)
	if b[2] != 1 || b[18] != 2 {
		t.Errorf("P1.8: the encoding becomes % d when the digests are changed", b)
	}
	b = wire.Strings([]string{"ab", "c"})
	l, _, _ := wire.GetStrings(b)
	clear(b)
	if !slices.Equal(l, []string{"ab", "c"}) {
		t.Errorf("P1.5: the strings become %q when their encoding is changed", l)
	}
}

// allocated returns the number of bytes that a function allocates.
func allocated(f func()) uint64 {
	var before, after runtime.MemStats
	runtime.ReadMemStats(&before)
	f()
	runtime.ReadMemStats(&after)
	return after.TotalAlloc - before.TotalAlloc
}

// TestAllocation checks that a length that is not true does not make the decoding functions allocate memory for it.
func TestAllocation(t *testing.T) {
	const claimed = 1 << 24
	short := append(wire.Int(claimed), make([]byte, 10)...)
	long := append(wire.Int(1<<16), bytes.Repeat([]byte{128}, 1<<16)...)
	for _, x := range []struct {
		b    []byte
		most uint64
	}{{short, 1 << 16}, {long, 1 << 22}} {
		sum := allocated(func() {
			wire.GetBytes(x.b)
			wire.GetInts(x.b)
			wire.GetStrings(x.b)
			wire.GetDigests(x.b)
		})
		if sum > x.most {
			t.Errorf("decoding %d bytes allocates %d bytes", len(x.b), sum)
		}
	}
}

// FuzzCanonical finds byte sequences that are decoded though they are no encodings, and panics (P1, P1.6).
func FuzzCanonical(f *testing.F) {
	f.Add([]byte{})
	f.Add(wire.Int(-257))
	f.Add(wire.Bytes("ab"))
	f.Add(wire.Ints([]int{1, -1, math.MaxInt}))
	f.Add(wire.Strings([]string{"", "a"}))
	f.Add(wire.Digests([]api.Digest{{}, {1}}))
	f.Fuzz(allCanonical)
}
