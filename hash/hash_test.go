package hash_test

import (
	"bytes"
	"crypto/hmac"
	"crypto/sha256"
	"encoding/hex"
	"math"
	"math/rand"
	"slices"
	"strings"
	"sync"
	"testing"
	"time"

	"custody/api"
	"custody/hash"
	"custody/wire"
)

// text returns a text of n bytes in which no two blocks are the same.
func text(n int) string {
	b := make([]byte, n)
	rand.New(rand.NewSource(int64(n))).Read(b)
	return string(b)
}

// lengths returns the lengths around which the padding changes, and a few large ones.
func lengths() []int {
	l := []int{0, 1, 2, 3, 1000, 4000, 4096, 8191, 8192, 70000, 1<<20 + 7}
	for blocks := range 5 {
		for n := -10; n <= 2; n++ {
			l = append(l, 64*blocks+64+n)
		}
	}
	return l
}

// isSum checks a hash against the one of the standard library.
func isSum(t *testing.T, promise, s string, got [32]byte) {
	t.Helper()
	if want := sha256.Sum256([]byte(s)); got != want {
		t.Fatalf("%s: the hash of %d bytes is %x, not %x", promise, len(s), got, want)
	}
}

// isHex checks bytes against what a document says they are.
func isHex(t *testing.T, promise, name, got, want string) {
	t.Helper()
	if h := hex.EncodeToString([]byte(got)); h != want {
		t.Errorf("%s: %s is %s, not %s", promise, name, h, want)
	}
}

// ofInput is the text of P2.4 whose hash begins with the digest.
func ofInput(tag int, parts []string) []byte {
	b := []byte{byte((tag%256 + 256) % 256)}
	for _, p := range parts {
		b = append(b, wire.Bytes(p)...)
	}
	return b
}

// isOf checks a digest against P2.4.
func isOf(t *testing.T, tag int, parts ...string) {
	t.Helper()
	sum := sha256.Sum256(ofInput(tag, parts))
	if got := hash.Of(tag, parts...); got != api.Digest(sum[:16]) {
		t.Fatalf("P2.4: Of(%d, %q) is %x, not %x", tag, parts, got, sum[:16])
	}
}

// TestSumKnown checks the examples of the chapter and of the standard.
func TestSumKnown(t *testing.T) {
	for _, x := range [][2]string{
		{"", "e3b0c44298fc1c149afbf4c8996fb92427ae41e4649b934ca495991b7852b855"},
		{"abc", "ba7816bf8f01cfea414140de5dae2223b00361a396177a9cb410ff61f20015ad"},
		{"abcdbcdecdefdefgefghfghighijhijkijkljklmklmnlmnomnopnopq", "248d6a61d20638b8e5c026930c3e6039a33ce45964ff2167f6ecedd419db06c1"},
		{"abcdefghbcdefghicdefghijdefghijkefghijklfghijklmghijklmnhijklmnoijklmnopjklmnopqklmnopqrlmnopqrsmnopqrstnopqrstu", "cf5b16a778af8380036ce59e7b0492370b249b11e8f07a51afac45037afee9d1"},
		{strings.Repeat("a", 1000000), "cdc76e5c9914fb9281a1c7e284d73e67f1809a48a497200e046d39ccc7112cd0"},
	} {
		sum, stream := hash.Sum([]byte(x[0])), hash.Begin().Add(x[0]).Sum()
		isHex(t, "P2.1", "Sum", string(sum[:]), x[1])
		isHex(t, "P2.2", "the stream's Sum", string(stream[:]), x[1])
	}
}

// TestSum compares hashes of messages of all short lengths, and of others, with the standard library.
func TestSum(t *testing.T) {
	isSum(t, "P2.1", "", hash.Sum(nil))
	isSum(t, "P2.1", "", hash.Sum([]byte{}))
	l := lengths()
	for n := range 700 {
		l = append(l, n)
	}
	for _, n := range l {
		s := text(n)
		isSum(t, "P2.1", s, hash.Sum([]byte(s)))
		isSum(t, "P2.2", s, hash.Begin().Add(s).Sum())
	}
	// The padding begins with a byte that a message may end with, and goes on with zero bytes.
	for n := range 200 {
		for _, c := range []byte{0, 1, 127, 128, 255} {
			s := strings.Repeat(string([]byte{c}), n)
			isSum(t, "P2.1", s, hash.Sum([]byte(s)))
			s = text(n) + string([]byte{128, 0, 0})
			isSum(t, "P2.1", s, hash.Sum([]byte(s)))
		}
	}
}

// TestLong hashes a message whose length in bits does not fit into 32 bits.
func TestLong(t *testing.T) {
	if testing.Short() {
		t.Skip("it takes a few seconds")
	}
	t.Parallel()
	piece := text(1 << 20)
	s, want := hash.Begin(), sha256.New()
	for range 1<<9 + 1 {
		s = s.Add(piece)
		want.Write([]byte(piece))
	}
	if got := s.Sum(); [32]byte(want.Sum(nil)) != got {
		t.Errorf("P2.1: the hash of 513 MiB is %x", got)
	}
}

// TestStream checks that asking for a hash, or adding nothing, does not change a stream.
func TestStream(t *testing.T) {
	isSum(t, "P2.2", "", hash.Begin().Sum())
	for _, n := range lengths() {
		a, b := text(n), text(n+5)
		s := hash.Begin().Add("").Add(a)
		for range 3 {
			isSum(t, "P2.2", a, s.Sum())
			isSum(t, "P2.2", a, s.Add("").Sum())
			isSum(t, "P2.2", a, s.Add("").Add("").Sum())
		}
		isSum(t, "P2.2", a+b, s.Add(b).Sum())
		isSum(t, "P2.2", a, s.Sum())
	}
}

// TestStreamShared checks that several streams can continue the same one.
func TestStreamShared(t *testing.T) {
	for n := range 140 {
		start := text(n)
		s := hash.Begin().Add(start)
		saved := s
		ends := []string{"", "x", "y", text(1), text(8), text(55), text(63), text(64), text(65), text(300)}
		var l []hash.Stream
		for _, end := range ends {
			l = append(l, s.Add(end))
		}
		for i, end := range ends {
			isSum(t, "P2.2", start+end, l[i].Sum())
			isSum(t, "P2.2", start+end+"z", l[i].Add("z").Sum())
			isSum(t, "P2.2", start+end, l[i].Sum())
		}
		isSum(t, "P2.2", start, s.Sum())
		s = s.Add("changed")
		isSum(t, "P2.2", start, saved.Sum())
		isSum(t, "P2.2", start+"changed", s.Sum())
	}
	isSum(t, "P2.2", "", hash.Begin().Sum())
}

// TestPieces adds messages in pieces of every size, and in pieces of all sorts of sizes.
func TestPieces(t *testing.T) {
	for _, n := range []int{0, 1, 55, 56, 57, 63, 64, 65, 119, 120, 127, 128, 129, 200, 330} {
		s := text(n)
		for size := 1; size <= n+1; size++ {
			h := hash.Begin()
			for at := 0; at < n; at += size {
				h = h.Add(s[at:min(n, at+size)])
			}
			isSum(t, "P2.6", s, h.Sum())
		}
		for at := range n + 1 {
			isSum(t, "P2.6", s, hash.Begin().Add(s[:at]).Add(s[at:]).Sum())
		}
	}
	r := rand.New(rand.NewSource(1))
	for range 2000 {
		s := text(r.Intn(1000))
		h, at := hash.Begin(), 0
		for at < len(s) {
			end := min(len(s), at+r.Intn(1+r.Intn(200)))
			h, at = h.Add(s[at:end]), end
			isSum(t, "P2.6", s[:at], h.Sum())
		}
		isSum(t, "P2.6", s, h.Sum())
	}
}

// TestMacKnown checks the examples of the chapter and of RFC 4231.
func TestMacKnown(t *testing.T) {
	long := strings.Repeat("\xaa", 131)
	var count string
	for i := 1; i <= 25; i++ {
		count += string([]byte{byte(i)})
	}
	for _, x := range [][3]string{
		{"Jefe", "what do ya want for nothing?", "5bdcc146bf60754e6a042426089575c75a003f089d2739839dec58b964ec3843"},
		{"", "", "b613679a0814d9ec772f95d778c35fc5ff1697c493715653c6c712144292c5ad"},
		{strings.Repeat("\x0b", 20), "Hi There", "b0344c61d8db38535ca8afceaf0bf12b881dc200c9833da726e9376c2e32cff7"},
		{strings.Repeat("\xaa", 20), strings.Repeat("\xdd", 50), "773ea91e36800e46854db8ebd09181a72959098b3ef8c122d9635514ced565fe"},
		{count, strings.Repeat("\xcd", 50), "82558a389a443c0ea4cc819899f2083a85f0faa3e578f8077a2e3ff46729665b"},
		{long, "Test Using Larger Than Block-Size Key - Hash Key First", "60e431591ee0b67f0d8a26aacbf5b77f8e0bc6213728c5140546040f0ee37f54"},
		{long, "This is a test using a larger than block-size key and a larger than block-size data. The key needs to be hashed before being used by the HMAC algorithm.", "9b09ffa71b942fcb27635fbcd5b0e944bfdc63644f0713938a7f51535c3a35e2"},
	} {
		isHex(t, "P2.3", "Mac", hash.Mac(x[0], x[1]), x[2])
	}
}

// TestMac compares codes with the standard library, for keys up to a block and longer ones.
func TestMac(t *testing.T) {
	check := func(key, s string) {
		t.Helper()
		h := hmac.New(sha256.New, []byte(key))
		h.Write([]byte(s))
		if got, want := hash.Mac(key, s), string(h.Sum(nil)); got != want {
			t.Fatalf("P2.3: the code of %d bytes under a key of %d is %x, not %x", len(s), len(key), got, want)
		}
	}
	for k := range 200 {
		for _, n := range []int{0, 1, 32, 55, 56, 63, 64, 65, 128, 300} {
			check(text(k), text(n))
		}
	}
	check(text(100000), text(1<<20))
	if a, b := hash.Mac("key", "x"), hash.Mac("key\x00", "x"); a != b {
		t.Errorf("P2.3: %x and %x differ, though zero bytes extend the key", a, b)
	}
	if long, b := text(65), hash.Sum([]byte(text(65))); hash.Mac(long, "x") != hash.Mac(string(b[:]), "x") {
		t.Error("P2.3: a key of 65 bytes is not replaced by its hash")
	}
	if full, b := text(64), hash.Sum([]byte(text(64))); hash.Mac(full, "x") == hash.Mac(string(b[:]), "x") {
		t.Error("P2.3: a key of 64 bytes is replaced by its hash")
	}
}

// TestOfKnown checks the examples of the chapter.
func TestOfKnown(t *testing.T) {
	for _, x := range []struct {
		name, got, want string
	}{
		{"Of(1)", digest(hash.Of(1)), "4bf5122f344554c53bde2ebb8cd2b7e3"},
		{`Of(8, "a", "")`, digest(hash.Of(8, "a", "")), "36cd50850329f88406e31bb8a7d8fb62"},
	} {
		isHex(t, "P2.4", x.name, x.got, x.want)
	}
}

// digest returns the bytes of a digest.
func digest(d api.Digest) string { return string(d[:]) }

// TestOf compares digests with P2.4, for all tags and many lists of parts.
func TestOf(t *testing.T) {
	tags := []int{math.MinInt, math.MinInt + 1, math.MaxInt - 1, math.MaxInt, 1 << 32, -1 << 32, 1<<40 + 7}
	for tag := -600; tag <= 600; tag++ {
		tags = append(tags, tag)
	}
	for _, tag := range tags {
		isOf(t, tag)
		isOf(t, tag, "")
		isOf(t, tag, "a", "bc")
	}
	for _, x := range [][2]int{{-1, 255}, {-256, 0}, {256, 0}, {-255, 1}, {257, 1}, {math.MinInt, 0}, {math.MaxInt, 255}} {
		if hash.Of(x[0], "x") != hash.Of(x[1], "x") {
			t.Errorf("P2.4: the tags %d and %d differ", x[0], x[1])
		}
	}
	for n := range 300 {
		isOf(t, n, text(n))
		isOf(t, n, "", text(n), "", text(n/2))
		isOf(t, n, make([]string, n)...)
	}
	isOf(t, 1, []string(nil)...)
	isOf(t, 1, []string{}...)
	isOf(t, 1, text(65535), text(65536), text(1<<20))
	r := rand.New(rand.NewSource(2))
	for range 2000 {
		parts := make([]string, r.Intn(8))
		for i := range parts {
			parts[i] = text(r.Intn(1 + r.Intn(300)))
		}
		isOf(t, int(r.Uint64()), parts...)
	}
}

// TestOfSeparate checks that lists which look alike, and all tags, have different digests.
func TestOfSeparate(t *testing.T) {
	lists := [][]string{
		{}, {""}, {"", ""}, {"", "", ""}, {"a"}, {"a", ""}, {"", "a"}, {"", "a", ""},
		{"abc"}, {"ab", "c"}, {"a", "bc"}, {"a", "b", "c"}, {"abc", ""}, {"", "abc"}, {"c", "ab"}, {"bc", "a"},
		{"\x00"}, {"\x00\x00"}, {"\x00", ""}, {"\x80"}, {"\x80", ""}, {"\x80\x80"},
		{string(wire.Bytes("a"))}, {string(wire.Bytes("a")) + string(wire.Bytes("b"))}, {"a", "b"},
		{"a" + string(wire.Bytes("b"))}, {string(wire.Strings([]string{"a", "b"}))},
		{strings.Repeat("x", 255)}, {strings.Repeat("x", 256)}, {strings.Repeat("x", 255), "x"},
	}
	seen := map[api.Digest]bool{}
	inputs := map[string]bool{}
	for tag := range 256 {
		for _, l := range lists {
			d := hash.Of(tag, l...)
			if seen[d] {
				t.Fatalf("P2.6: Of(%d, %q) is the digest of another list or tag", tag, l)
			}
			if b := string(ofInput(tag, l)); inputs[b] {
				t.Fatalf("P2.6: (%d, %q) has the input of another list or tag", tag, l)
			} else {
				inputs[b] = true
			}
			seen[d] = true
		}
	}
}

func TestEqual(t *testing.T) {
	for _, x := range []struct {
		a, b string
		want bool
	}{
		{"", "", true}, {"ab", "ab", true}, {"ab", "ac", false}, {"", "a", false}, {"a", "", false},
		{"ab", "bb", false}, {"ab", "a", false}, {"ab", "abc", false}, {"ab", "ba", false},
		{"\x00", "", false}, {"\x00", "\x00\x00", false}, {"a\x00", "a", false}, {"\x00", "\x80", false},
		{"ab", "AB", false}, {"\x01\x02", "\x02\x01", false}, {"\x01\x01", "\x00\x00", false},
		{text(300), text(300), true}, {text(300), text(301), false}, {text(300), text(300)[:299], false},
	} {
		if hash.Equal(x.a, x.b) != x.want {
			t.Errorf("P2.5: Equal(%q, %q) is not %v", x.a, x.b, x.want)
		}
	}
	// Every bit counts, at each place, and two differences do not make up for each other.
	for n := range 70 {
		a := text(n)
		if !hash.Equal(a, strings.Clone(a)) {
			t.Errorf("P2.5: a text of %d bytes is not equal to itself", n)
		}
		for i := range n {
			for bit := range 8 {
				b := []byte(a)
				b[i] ^= 1 << bit
				if hash.Equal(a, string(b)) || hash.Equal(string(b), a) {
					t.Fatalf("P2.5: bit %d of byte %d of %d is not compared", bit, i, n)
				}
				b[(i+1)%n] ^= 1 << bit
				if n > 1 && hash.Equal(a, string(b)) {
					t.Fatalf("P2.5: two differences from byte %d of %d on are overlooked", i, n)
				}
			}
		}
	}
}

// TestEqualTime checks that Equal takes as long for texts that differ in the first byte as for texts that differ in the last one.
func TestEqualTime(t *testing.T) {
	const n = 1 << 23
	a := strings.Repeat("a", n)
	first, last := "b"+a[1:], a[:n-1]+"b"
	took := func(b string) time.Duration {
		begin := time.Now()
		if hash.Equal(a, b) {
			t.Fatal("P2.5: different texts are equal")
		}
		return time.Since(begin)
	}
	early, late := took(first), took(last)
	for range 9 {
		early, late = min(early, took(first)), min(late, took(last))
	}
	// A comparison that stops early is faster by a factor of thousands.
	if early*20 < late {
		t.Errorf("P2.5: a difference takes %v at the beginning and %v at the end", early, late)
	}
}

// TestArguments checks that arguments are not changed, nor the memory behind them, where the padding would fit.
func TestArguments(t *testing.T) {
	for _, n := range lengths() {
		b := []byte(text(n + 200))
		before := slices.Clone(b)
		sum := hash.Sum(b[:n])
		if !bytes.Equal(b, before) {
			t.Fatalf("P2.1: Sum changes its argument of %d bytes or what follows it", n)
		}
		clear(b)
		isSum(t, "P2.1", string(before[:n]), sum)
	}
	parts := []string{"a", "", text(100), "behind"}
	before := slices.Clone(parts)
	hash.Of(7, parts[:3]...)
	if !slices.Equal(parts, before) {
		t.Errorf("P2.4: Of changes its parts to %q", parts)
	}
}

// TestResults checks that changing a result does not change later ones.
func TestResults(t *testing.T) {
	s := hash.Begin().Add("abc")
	a, b, d := s.Sum(), hash.Sum([]byte("abc")), hash.Of(1, "abc")
	want := d
	clear(a[:])
	clear(b[:])
	clear(d[:])
	isSum(t, "P2.2", "abc", s.Sum())
	isSum(t, "P2.1", "abc", hash.Sum([]byte("abc")))
	if hash.Of(1, "abc") != want {
		t.Error("P2.4: the digest changes when an earlier result is changed")
	}
}

// TestNoState checks that streams of which one is the beginning of the others, and all functions, do not disturb each other.
func TestNoState(t *testing.T) {
	s := hash.Begin().Add(text(60))
	mac, of := hash.Mac("key", "text"), hash.Of(3, "a", "b")
	var all sync.WaitGroup
	for i := range 8 {
		all.Go(func() {
			end := text(i * 9)
			want := sha256.Sum256([]byte(text(60) + end))
			for range 200 {
				if s.Add(end).Sum() != want || hash.Mac("key", "text") != mac || hash.Of(3, "a", "b") != of {
					t.Error("P2.2: results change while other streams are hashed")
				}
			}
		})
	}
	all.Wait()
}

// FuzzHash finds panics, and results that differ from the standard library (P1, P2.1 to P2.6).
func FuzzHash(f *testing.F) {
	f.Add("", "", 0)
	f.Add("key", text(64), -1)
	f.Add(text(65), text(128), 300)
	f.Fuzz(func(t *testing.T, a, b string, n int) {
		at := int(uint(n) % uint(len(b)+1))
		isSum(t, "P2.1", b, hash.Sum([]byte(b)))
		isSum(t, "P2.6", a+b, hash.Begin().Add(a).Add(b[:at]).Add(b[at:]).Sum())
		h := hmac.New(sha256.New, []byte(a))
		h.Write([]byte(b))
		if hash.Mac(a, b) != string(h.Sum(nil)) {
			t.Fatalf("P2.3: Mac(%q, %q)", a, b)
		}
		isOf(t, n, a, b)
		if hash.Equal(a, b) != (a == b) || !hash.Equal(b, strings.Clone(b)) {
			t.Fatalf("P2.5: Equal(%q, %q)", a, b)
		}
	})
}
