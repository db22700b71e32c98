package seal_test

import (
	"crypto/hmac"
	"crypto/sha256"
	"encoding/hex"
	"math/rand"
	"strings"
	"sync"
	"testing"

	"custody/api"
	"custody/cipher"
	"custody/seal"
)

// limit is the most bytes of a text, and of a context.
const limit = 1048576

// sunscreen is the text that RFC 8439 encrypts.
const sunscreen = "Ladies and Gentlemen of the class of '99: If I could offer you only one tip for the future, sunscreen would be it."

// text returns a text of n bytes in which no two blocks are the same.
func text(n int) string {
	b := make([]byte, n)
	rand.New(rand.NewSource(int64(n))).Read(b)
	return string(b)
}

// count returns the bytes from 0 to n - 1.
func count(n int) string {
	b := make([]byte, n)
	for i := range b {
		b[i] = byte(i)
	}
	return string(b)
}

// rising returns n bytes whose differences are step.
func rising(n, step, from int) string {
	b := make([]byte, n)
	for i := range b {
		b[i] = byte(step*i + from)
	}
	return string(b)
}

// squares returns n bytes that follow a rule which another implementation can follow, too.
func squares(n int) string {
	b := make([]byte, n)
	for i := range b {
		b[i] = byte((i*i + 3*i) % 251)
	}
	return string(b)
}

// flip returns a text with one bit changed.
func flip(s string, bit int) string {
	b := []byte(s)
	b[bit/8] ^= 1 << (bit % 8)
	return string(b)
}

// mac is HMAC-SHA-256 of the standard library.
func mac(key, s string) string {
	h := hmac.New(sha256.New, []byte(key))
	h.Write([]byte(s))
	return string(h.Sum(nil))
}

// prefixed is wire.Bytes of a text of at most 2^24 - 1 bytes.
func prefixed(s string) string {
	n := len(s)
	switch {
	case n == 0:
		return "\x80"
	case n < 1<<8:
		return string([]byte{129, byte(n)}) + s
	case n < 1<<16:
		return string([]byte{130, byte(n >> 8), byte(n)}) + s
	}
	return string([]byte{131, byte(n >> 16), byte(n >> 8), byte(n)}) + s
}

// nonceOf is the nonce of P4.2.
func nonceOf(key, ad, s string) string {
	return mac(mac(key, "mac"), "nonce"+prefixed(ad)+s)[:12]
}

// forge returns what P4.2 makes of a text if the nonce is another one: the tag is right, and the nonce is not.
func forge(t *testing.T, key, ad, s, nonce string) string {
	t.Helper()
	c, e := cipher.Xor(mac(key, "enc"), 1, nonce, s)
	if e != api.OK {
		t.Fatal(e)
	}
	return nonce + c + mac(mac(key, "mac"), "tag"+nonce+prefixed(ad)+c)[:16]
}

// sealed is P4.2, for a key of the right length.
func sealed(t *testing.T, key, ad, s string) string {
	t.Helper()
	return forge(t, key, ad, s, nonceOf(key, ad, s))
}

// isSeal checks a sealed text against P4.2, opens it, and returns it.
func isSeal(t *testing.T, key, ad, s string) string {
	t.Helper()
	b, e := seal.Seal(key, ad, s)
	if e != api.OK || b != sealed(t, key, ad, s) {
		t.Fatalf("P4.2: a text of %d bytes with a context of %d is sealed as %x, error %d", len(s), len(ad), b[:min(len(b), 100)], e)
	}
	if len(b) != len(s)+28 {
		t.Fatalf("P4.5: a text of %d bytes is sealed as %d bytes", len(s), len(b))
	}
	if back, e := seal.Open(key, ad, b); e != api.OK || back != s {
		t.Fatalf("P4.4: a text of %d bytes with a context of %d is opened as %d bytes, error %d", len(s), len(ad), len(back), e)
	}
	return b
}

// fails checks that a text is not opened.
func fails(t *testing.T, key, ad, blob string, want api.Errno, what string) {
	t.Helper()
	if s, e := seal.Open(key, ad, blob); s != "" || e != want {
		t.Fatalf("P4.3: %s: %d bytes, error %d instead of %d", what, len(s), e, want)
	}
}

// isHex checks bytes against what another implementation computes.
func isHex(t *testing.T, promise, name, got, want string) {
	t.Helper()
	if h := hex.EncodeToString([]byte(got)); h != want {
		t.Errorf("%s: %s is %s, not %s", promise, name, h, want)
	}
}

// lengths returns the lengths around which a block of the cipher or of the hash ends, or the encoding of a length changes.
func lengths() []int {
	l := []int{0, 1, 2, 11, 12, 13, 15, 16, 17, 27, 28, 29, 254, 255, 256, 257, 1000, 4000, 65535, 65536, 65537}
	for n := 1; n < 6; n++ {
		l = append(l, 64*n-1, 64*n, 64*n+1)
	}
	return l
}

// wrongSizes returns lengths that a key does not have.
func wrongSizes() []int {
	return []int{0, 1, 2, 8, 12, 15, 16, 17, 24, 28, 30, 31, 33, 34, 40, 44, 48, 63, 64, 65, 96, 128, 256, 256 + 32, 65536 + 32}
}

// TestOverhead checks how many bytes are added.
func TestOverhead(t *testing.T) {
	if n := seal.Overhead; n != 28 {
		t.Errorf("P4.5: Overhead is %d", n)
	}
}

// TestKeysKnown checks derived keys against another implementation.
func TestKeysKnown(t *testing.T) {
	for _, x := range [][3]string{
		{count(32), "0dea1b7f592f4cbd46f023760bf849c3f2db7a3b4401d80360ed9c00f7241d1a", "7562bef2708deb6189fd5bddaaa110542f4106ec62d627e8a6f5c2aa3eb5efd4"},
		{rising(32, 7, 129), "caf6e6fb695e8098981ba9e743b9de0e861bced91c1720e2c1d74f734453938b", "5b7d4377f04dfdc7d7969b3ac99ee46214a5d0e02809326f894391d6234e6054"},
		{strings.Repeat("\x00", 32), "1a9ecf19b8c8a3bca05e631611c9e90abe764a7cc1f7961d4c73fbbc3339fea5", "84d48ab8cce2e4f74017524767192ec58e06dd3bf95c07e516f6e540f1cb8909"},
	} {
		enc, auth, e := seal.Keys(x[0])
		if e != api.OK {
			t.Error("P4.1: error", e)
		}
		isHex(t, "P4.1", "the encryption key", enc, x[1])
		isHex(t, "P4.1", "the authentication key", auth, x[2])
	}
}

// TestKeys compares derived keys with P4.1; every bit of the key counts, and no two derived keys are the same.
func TestKeys(t *testing.T) {
	seen := map[string]bool{}
	check := func(key string) {
		t.Helper()
		enc, auth, e := seal.Keys(key)
		if e != api.OK || enc != mac(key, "enc") || auth != mac(key, "mac") {
			t.Fatalf("P4.1: Keys(%x) is %x, %x, error %d", key, enc, auth, e)
		}
		if seen[enc] || seen[auth] || enc == auth {
			t.Fatalf("P4.1: Keys(%x) are keys that were derived before", key)
		}
		seen[enc], seen[auth] = true, true
	}
	check(text(32))
	for bit := range 32 * 8 {
		check(flip(text(32), bit))
	}
}

// TestKeysErrors checks that keys of other lengths are refused, and that nothing is returned with the error.
func TestKeysErrors(t *testing.T) {
	for _, n := range wrongSizes() {
		if enc, auth, e := seal.Keys(text(n)); enc != "" || auth != "" || e != api.ErrArg {
			t.Errorf("P4.1: Keys of %d bytes are %x, %x, error %d", n, enc, auth, e)
		}
	}
}

// TestSealKnown checks sealed texts against another implementation.
func TestSealKnown(t *testing.T) {
	key, other := count(32), rising(32, 7, 129)
	for _, x := range []struct{ key, ad, text, want string }{
		{key, "", "", "59d89951355e29819e6de89deb35f5c3ecf32616df7f0764d4166d4d"},
		{key, "context", "", "b523b917fa8de312abd714aced29c0eda75b0aa26e0429c45be28207"},
		{key, "", "text", "14cab7de6cb85de59f19f666e936bcd78b633519f68dfa0e3ae17b6dcacb8f8b"},
		{other, "context", sunscreen, "eac0b48dbcdfdb74e00d0ecd394a4919e39ca93971dd1d3a7b6dfc1dc14d9278ca43ce24b947e115f5e806a32caed92909d42f00e02ed68ce5f20f5dae9933846bdc0905a1ff2276b95209d39c049ca14ba42d7aae6b84003e9999abc1e8c53818e04b7b3fa77f27eec6ae4ff592725dce04dd08972a5286ffd993c39054014d490b100e598be41de0f20b7ab302"},
		{strings.Repeat("\x00", 32), strings.Repeat("\x00", 300), strings.Repeat("\x00", 64), "82a1d010d7eb8fc71304df6f5536531aed4e98fe637a57982853df4757ba63e13ee64f929e62be921943f1478a77bab80151b46cfa95b0ac2ff357d2eb46eddee274588761e984b269244d549f0226928de15c8ac75d8ba91fa6a5d0"},
		{strings.Repeat("\xff", 32), strings.Repeat("\xff", 12), strings.Repeat("\xff", 65), "6aa1b49d252f967f983904055594c5349c320bbba64cb90d4de939c1f78a13ca257720809bc0612803a5c608c2d7e14e96250b792684a8a181e1cba6fc5cec99247ab2a0e301a5a079a17c33eec3d8c642ef6714bd2613ef73a82cf432"},
	} {
		isHex(t, "P4.2", "a sealed text", isSeal(t, x.key, x.ad, x.text), x.want)
	}
}

// TestSealKnownLong checks the hashes of long sealed texts, the second one with the longest context and text, against another implementation.
func TestSealKnownLong(t *testing.T) {
	key := rising(32, 7, 129)
	sum := sha256.Sum256([]byte(isSeal(t, key, rising(70000, 5, 0), squares(100000))))
	isHex(t, "P4.2", "a long sealed text", string(sum[:]), "e86507c57048e2c0d0470910ce6c4f1f096ae8b16dbac041a14bade5c1da1ed1")
	sum = sha256.Sum256([]byte(isSeal(t, key, squares(limit), squares(limit))))
	isHex(t, "P4.2", "the longest sealed text", string(sum[:]), "8dd92114e74cce505fbc1cce2bba413edadf2c88c0d3f333b04af8f8991d4687")
}

// TestSeal compares sealed texts with P4.2, and opens them (P4.3, P4.4).
func TestSeal(t *testing.T) {
	key := text(32)
	for _, n := range lengths() {
		for _, m := range lengths() {
			if n+m < 70000 {
				isSeal(t, key, text(m), text(n))
			}
		}
		isSeal(t, key, strings.Repeat("\x00", n), strings.Repeat("\xff", n))
	}
	for n := range 200 {
		isSeal(t, key, "", text(n))
		isSeal(t, key, text(n), "")
		isSeal(t, text(n + 32)[:32], text(n), text(n))
	}
}

// TestSealAgain checks that there is exactly one sealed text for a key, a context and a text.
func TestSealAgain(t *testing.T) {
	for _, n := range lengths() {
		key, ad, s := text(32), text(n+1), text(n)
		b := isSeal(t, key, ad, s)
		isSeal(t, key, s, ad)
		if again := isSeal(t, key, ad, s); again != b {
			t.Fatalf("P4.2: a text of %d bytes is sealed in two ways", n)
		}
	}
}

// TestSealDiffers checks that sealed texts of different texts, or with different contexts or keys, differ (P4.5), and that only their own key and context open them.
func TestSealDiffers(t *testing.T) {
	key, ad, s := text(32), text(20), text(40)
	seen := map[string]bool{}
	check := func(key, ad, s string) string {
		t.Helper()
		b := isSeal(t, key, ad, s)
		if seen[b] || seen[b[:12]] {
			t.Fatalf("P4.5: Seal(%x, %x, %x) is a sealed text, or has the nonce, of other arguments", key, ad, s)
		}
		seen[b], seen[b[:12]] = true, true
		return b
	}
	check(key, ad, s)
	for bit := range len(key) * 8 {
		check(flip(key, bit), ad, s)
	}
	for bit := range len(ad) * 8 {
		check(key, flip(ad, bit), s)
	}
	for bit := range len(s) * 8 {
		check(key, ad, flip(s, bit))
	}
	for n := range 20 {
		check(key, ad[:n], s)
		check(key, ad, s[:n])
	}
	check(key, ad+"\x00", s)
	check(key, ad, s+"\x00")
	check(key, "\x00", "")
	check(key, "", "\x00")
	check(key, "", "")
}

// TestDivided checks that the bytes of a context and a text cannot be divided otherwise between them.
func TestDivided(t *testing.T) {
	key := text(32)
	for _, whole := range []string{"abc", strings.Repeat("\x00", 20), strings.Repeat("\x80", 20), strings.Repeat("\x81\x01", 10), text(300)} {
		var blobs []string
		seen := map[string]bool{}
		for at := range len(whole) + 1 {
			b := isSeal(t, key, whole[:at], whole[at:])
			if seen[b[:12]] || seen[b[len(b)-16:]] {
				t.Fatalf("P4.2: %x divided after %d bytes has the nonce or the tag of another division", whole, at)
			}
			seen[b[:12]], seen[b[len(b)-16:]] = true, true
			blobs = append(blobs, b)
		}
		for at, b := range blobs {
			for other := max(0, at-3); other <= min(len(whole), at+3); other++ {
				if other != at {
					fails(t, key, whole[:other], b, api.ErrAuth, "a context divided otherwise")
				}
			}
		}
	}
}

// TestMoved checks that bytes cannot move between the context and the ciphertext, or between the parts of a sealed text.
func TestMoved(t *testing.T) {
	key, ad, s := text(32), text(9), text(50)
	b := isSeal(t, key, ad, s)
	nonce, c, tag := b[:12], b[12:len(b)-16], b[len(b)-16:]
	for n := 1; n <= len(c); n++ {
		fails(t, key, ad+c[:n], nonce+c[n:]+tag, api.ErrAuth, "ciphertext moved to the context")
	}
	for n := 1; n <= len(ad); n++ {
		fails(t, key, ad[:len(ad)-n], nonce+ad[len(ad)-n:]+c+tag, api.ErrAuth, "context moved to the ciphertext")
	}
	fails(t, key, ad, c+nonce+tag, api.ErrAuth, "the nonce after the ciphertext")
	fails(t, key, ad, tag+nonce+c, api.ErrAuth, "the tag before the nonce")
	fails(t, key, ad, nonce+tag+c, api.ErrAuth, "the tag before the ciphertext")
	fails(t, key, prefixed(ad), b, api.ErrAuth, "the encoded context")
}

// TestSealErrors checks which errors Seal has, in which order, and that nothing is returned with them.
func TestSealErrors(t *testing.T) {
	key, full := text(32), squares(limit)
	over := full + "x"
	check := func(key, ad, s string, want api.Errno) {
		t.Helper()
		if b, e := seal.Seal(key, ad, s); b != "" || e != want {
			t.Errorf("P4.2: Seal of %d, %d and %d bytes is %d bytes, error %d instead of %d", len(key), len(ad), len(s), len(b), e, want)
		}
	}
	for _, n := range wrongSizes() {
		check(text(n), "", "", api.ErrArg)
		check(text(n), "context", "text", api.ErrArg)
		check(text(n), over, "", api.ErrArg)
		check(text(n), "", over, api.ErrArg)
		check(text(n), over, over, api.ErrArg)
		check(text(n), full, full, api.ErrArg)
	}
	check(over, "", "", api.ErrArg)
	check(key, over, "", api.ErrLimit)
	check(key, "", over, api.ErrLimit)
	check(key, over, over, api.ErrLimit)
	check(key, over, full, api.ErrLimit)
	check(key, full, over, api.ErrLimit)
	check(key, full+full, "", api.ErrLimit)
	check(key, "", full+full, api.ErrLimit)
}

// TestLimits checks that contexts and texts of the greatest length are accepted, each alone and both together.
func TestLimits(t *testing.T) {
	key, full := text(32), squares(limit)
	isSeal(t, key, full, "")
	isSeal(t, key, "", full)
	isSeal(t, key, full, "text")
	isSeal(t, key, "context", full)
	isSeal(t, key, full[1:], full[1:])
	isSeal(t, key, full, full)
}

// TestOpenErrors checks which errors Open has, in which order, and that nothing is returned with them.
func TestOpenErrors(t *testing.T) {
	key, full := text(32), squares(limit)
	over, longest := full+"x", full+text(28)
	tooLong := longest + "x"
	right := isSeal(t, key, "", "text")
	for _, n := range wrongSizes() {
		for _, ad := range []string{"", full, over} {
			for _, b := range []string{"", text(27), text(28), right, longest, tooLong} {
				fails(t, text(n), ad, b, api.ErrArg, "a key of another length")
			}
		}
	}
	for _, b := range []string{"", text(27), text(28), right, longest, tooLong} {
		fails(t, key, over, b, api.ErrLimit, "a context that is too long")
		fails(t, key, full+full, b, api.ErrLimit, "a context that is much too long")
	}
	for _, ad := range []string{"", "context", full} {
		fails(t, key, ad, tooLong, api.ErrLimit, "a sealed text that is too long")
		fails(t, key, ad, full+full, api.ErrLimit, "a sealed text that is much too long")
		fails(t, key, ad, longest, api.ErrAuth, "the longest text, not sealed")
		for n := range 28 {
			fails(t, key, ad, text(n), api.ErrTruncated, "a text that is too short")
			fails(t, key, ad, right[:n], api.ErrTruncated, "a sealed text that is too short")
		}
		fails(t, key, ad, text(28), api.ErrAuth, "28 bytes that are not sealed")
		fails(t, key, ad, strings.Repeat("\x00", 28), api.ErrAuth, "28 zero bytes")
		fails(t, key, ad, text(29), api.ErrAuth, "29 bytes that are not sealed")
	}
}

// TestOpenTooLong checks that a text of one byte too many is not opened, even if all its codes are right.
func TestOpenTooLong(t *testing.T) {
	key, full := text(32), squares(limit)
	fails(t, key, "", sealed(t, key, "", full+"x"), api.ErrLimit, "a text that is too long, sealed")
	fails(t, key, full+"x", sealed(t, key, full+"x", ""), api.ErrLimit, "a context that is too long, sealed")
	if s, e := seal.Open(key, full, sealed(t, key, full, full)); s != full || e != api.OK {
		t.Errorf("P4.3: the longest text is opened as %d bytes, error %d", len(s), e)
	}
}

// TestOpenEmpty checks the sealed text of an empty text: it has 28 bytes, and opens with its own context only.
func TestOpenEmpty(t *testing.T) {
	key := count(32)
	b := isSeal(t, key, "", "")
	if len(b) != 28 {
		t.Errorf("P4.5: an empty text is sealed as %d bytes", len(b))
	}
	fails(t, key, "c", b, api.ErrAuth, "another context")
	fails(t, key, "\x80", b, api.ErrAuth, "the encoding of no context")
	fails(t, key, "", b[:27], api.ErrTruncated, "one byte less")
	fails(t, key, "", b+"\x00", api.ErrAuth, "one byte more")
	fails(t, key, "", "\x00"+b, api.ErrAuth, "one byte before")
	fails(t, key, "", isSeal(t, key, "c", ""), api.ErrAuth, "no context")
}

// TestOpenBits checks that no bit of a sealed text can be changed, neither of its nonce, nor of its ciphertext, nor of its tag.
func TestOpenBits(t *testing.T) {
	key := text(32)
	for _, n := range []int{0, 1, 4, 63, 64, 65, 150} {
		for _, ad := range []string{"", "context", text(100)} {
			b := isSeal(t, key, ad, text(n))
			for bit := range len(b) * 8 {
				fails(t, key, ad, flip(b, bit), api.ErrAuth, "one bit changed")
			}
		}
	}
}

// TestOpenLong checks that each part of the longest sealed text counts, up to its ends.
func TestOpenLong(t *testing.T) {
	key, full := text(32), squares(limit)
	b := isSeal(t, key, "context", full)
	for _, at := range []int{0, 11, 12, 13, limit / 2, limit + 11, limit + 12, limit + 27} {
		fails(t, key, "context", flip(b, 8*at), api.ErrAuth, "one bit of a long text changed")
	}
	fails(t, key, "context", b[:len(b)-1], api.ErrAuth, "one byte less")
	fails(t, key, "context", b[1:], api.ErrAuth, "the first byte less")
	b = isSeal(t, key, full, "text")
	for _, at := range []int{0, limit / 2, limit - 1} {
		fails(t, key, flip(full, 8*at), b, api.ErrAuth, "one bit of a long context changed")
	}
	fails(t, key, full[1:], b, api.ErrAuth, "one byte of the context less")
}

// TestOpenLengths checks that a sealed text cannot be cut or lengthened.
func TestOpenLengths(t *testing.T) {
	key, ad := text(32), "context"
	b := isSeal(t, key, ad, text(70))
	for n := range len(b) {
		want := api.ErrAuth
		if n < 28 {
			want = api.ErrTruncated
		}
		fails(t, key, ad, b[:n], want, "a sealed text without its end")
		fails(t, key, ad, b[len(b)-n:], want, "a sealed text without its beginning")
		fails(t, key, ad, b+b[:n+1], api.ErrAuth, "a sealed text with more bytes")
		if n >= 12 && n < len(b)-16 {
			fails(t, key, ad, b[:n]+b[len(b)-16:], api.ErrAuth, "a sealed text with less ciphertext")
		}
	}
}

// TestOpenOtherKey checks that each bit of the key counts.
func TestOpenOtherKey(t *testing.T) {
	for _, n := range []int{0, 1, 100} {
		key, ad := text(32), text(n)
		b := isSeal(t, key, ad, text(n))
		for bit := range len(key) * 8 {
			fails(t, flip(key, bit), ad, b, api.ErrAuth, "another key")
		}
		enc, auth, _ := seal.Keys(key)
		fails(t, enc, ad, b, api.ErrAuth, "the encryption key")
		fails(t, auth, ad, b, api.ErrAuth, "the authentication key")
	}
}

// TestOpenOtherContext checks that each bit, and the length, of the context counts.
func TestOpenOtherContext(t *testing.T) {
	key := text(32)
	for _, n := range []int{0, 1, 100, 256} {
		ad := text(n)
		b := isSeal(t, key, ad, "text")
		for bit := range n * 8 {
			fails(t, key, flip(ad, bit), b, api.ErrAuth, "another context")
		}
		for i := range n {
			fails(t, key, ad[:i], b, api.ErrAuth, "a shorter context")
			fails(t, key, ad[i+1:], b, api.ErrAuth, "the end of the context")
		}
		for _, more := range []string{"\x00", "\x80", "x", text(64)} {
			fails(t, key, ad+more, b, api.ErrAuth, "a longer context")
			fails(t, key, more+ad, b, api.ErrAuth, "a context with something before it")
		}
	}
}

// TestOpenOtherNonce checks that a text with another nonce than its own is refused, although its tag is right.
func TestOpenOtherNonce(t *testing.T) {
	key := text(32)
	for _, n := range []int{0, 1, 63, 64, 65, 1000} {
		for _, ad := range []string{"", "context"} {
			s := text(n)
			nonce := nonceOf(key, ad, s)
			for bit := range 12 * 8 {
				fails(t, key, ad, forge(t, key, ad, s, flip(nonce, bit)), api.ErrAuth, "another nonce, and its tag")
			}
			for _, other := range []string{strings.Repeat("\x00", 12), strings.Repeat("n", 12), nonceOf(key, ad+"x", s), nonceOf(key, ad, s+"x"), nonceOf(text(33)[:32], ad, s)} {
				fails(t, key, ad, forge(t, key, ad, s, other), api.ErrAuth, "the nonce of something else, and its tag")
			}
			if back, e := seal.Open(key, ad, forge(t, key, ad, s, nonce)); back != s || e != api.OK {
				t.Fatalf("P4.3: with its own nonce, a text of %d bytes is opened as %d bytes, error %d", n, len(back), e)
			}
		}
	}
}

// TestOpenOtherTag checks that a text with its own nonce is refused if its tag is one that was made in another way.
func TestOpenOtherTag(t *testing.T) {
	key, ad, s := text(32), "context", text(80)
	b := isSeal(t, key, ad, s)
	body, nonce, c := b[:len(b)-16], b[:12], b[12:len(b)-16]
	enc, auth, whole := mac(key, "enc"), mac(key, "mac"), "tag"+nonce+prefixed(ad)+c
	for _, tag := range []string{
		mac(auth, whole)[16:], mac(enc, whole)[:16], mac(key, whole)[:16],
		mac(auth, "tag"+nonce+ad+c)[:16], mac(auth, nonce+prefixed(ad)+c)[:16], mac(auth, "tag"+prefixed(ad)+c)[:16],
		mac(auth, "tag"+nonce+c)[:16], mac(auth, "tag"+nonce+prefixed(ad)+s)[:16], mac(auth, "tag"+nonce+prefixed(ad))[:16],
		isSeal(t, key, ad, s+"x")[12+81:], isSeal(t, key, ad+"x", s)[12+80:], strings.Repeat("\x00", 16),
	} {
		fails(t, key, ad, body+tag, api.ErrAuth, "another tag")
	}
}

// TestOpenMixed checks that the parts of two sealed texts cannot be mixed.
func TestOpenMixed(t *testing.T) {
	key, ad := text(32), "context"
	for _, n := range []int{1, 64, 100} {
		a, b := isSeal(t, key, ad, text(n)), isSeal(t, key, ad, text(n + 1)[:n])
		end := 12 + n
		for _, x := range []string{
			a[:12] + b[12:], b[:12] + a[12:],
			a[:12] + b[12:end] + a[end:], b[:12] + a[12:end] + b[end:],
			a[:end] + b[end:], b[:end] + a[end:],
		} {
			fails(t, key, ad, x, api.ErrAuth, "parts of two sealed texts")
		}
	}
}

// TestOpened checks that whatever is opened is the sealed text of what is returned (P4.4).
func TestOpened(t *testing.T) {
	key, s := text(32), text(30)
	r := rand.New(rand.NewSource(4))
	opened := 0
	for i := range 3000 {
		ad := text(r.Intn(3))
		nonce := nonceOf(key, ad, s[:i%30])
		if i%3 == 1 {
			nonce = flip(nonce, r.Intn(96))
		}
		b := forge(t, key, ad, s[:i%30], nonce)
		if i%3 == 2 {
			b = flip(b, r.Intn(8*len(b)))
		}
		got, e := seal.Open(key, ad, b)
		if e != api.OK {
			if got != "" {
				t.Fatalf("P4.3: %x is returned with error %d", got, e)
			}
			continue
		}
		opened++
		if again, e := seal.Seal(key, ad, got); again != b || e != api.OK {
			t.Fatalf("P4.4: %x is opened, but is not the sealed text of %x, error %d", b, got, e)
		}
	}
	if opened != 1000 {
		t.Errorf("P4.4: %d of 1000 sealed texts are opened", opened)
	}
}

// TestArguments checks that arguments are not changed, and that results are not changed by later calls.
func TestArguments(t *testing.T) {
	for _, n := range lengths() {
		key, ad, s := text(32), text(n+1), text(n)
		cloned := []string{strings.Clone(key), strings.Clone(ad), strings.Clone(s)}
		b := isSeal(t, key, ad, s)
		before := strings.Clone(b)
		enc, auth, e := seal.Keys(key)
		if e != api.OK || enc != mac(key, "enc") || auth != mac(key, "mac") {
			t.Fatal("P4.1:", e)
		}
		isSeal(t, key, s, ad)
		if key != cloned[0] || ad != cloned[1] || s != cloned[2] || b != before {
			t.Fatalf("P4.2: the arguments or the result for %d bytes are changed", n)
		}
	}
}

// TestNoState checks that calls do not disturb each other.
func TestNoState(t *testing.T) {
	var all sync.WaitGroup
	for i := range 8 {
		key, ad, s := text(32 + i)[:32], text(3*i), text(50*i)
		want := sealed(t, key, ad, s)
		all.Go(func() {
			for range 200 {
				if b, e := seal.Seal(key, ad, s); e != api.OK || b != want {
					t.Error("P4.2: results change while other texts are sealed")
				}
				if back, e := seal.Open(key, ad, want); e != api.OK || back != s {
					t.Error("P4.3: results change while other texts are opened")
				}
			}
		})
	}
	all.Wait()
}

// FuzzSeal finds panics, and results that differ from the promises (P1, P4.1 to P4.5).
func FuzzSeal(f *testing.F) {
	f.Add("", "", "", "")
	f.Add(count(32), "", "", strings.Repeat("\x00", 12))
	f.Add(text(32), "context", sunscreen, text(12))
	f.Add(text(32), text(300), text(28), text(13))
	f.Add(text(33), "context", text(27), text(12))
	f.Fuzz(func(t *testing.T, key, ad, s, nonce string) {
		enc, auth, e := seal.Keys(key)
		if len(key) != 32 {
			b, g := seal.Seal(key, ad, s)
			back, h := seal.Open(key, ad, s)
			if e != api.ErrArg || g != api.ErrArg || h != api.ErrArg || enc+auth+b+back != "" {
				t.Fatalf("P4.1: keys of %d bytes are not refused", len(key))
			}
			return
		}
		if e != api.OK || enc != mac(key, "enc") || auth != mac(key, "mac") {
			t.Fatalf("P4.1: Keys(%x)", key)
		}
		if len(ad) > limit || len(s) > limit {
			return
		}
		b := isSeal(t, key, ad, s)
		want := api.ErrAuth
		if len(s) < 28 {
			want = api.ErrTruncated
		}
		fails(t, key, ad, s, want, "a text that is not sealed")
		fails(t, key, ad+"x", b, api.ErrAuth, "another context")
		if len(nonce) == 12 && nonce != b[:12] {
			fails(t, key, ad, nonce+b[12:], api.ErrAuth, "another nonce")
			fails(t, key, ad, forge(t, key, ad, s, nonce), api.ErrAuth, "another nonce, and its tag")
		}
	})
}
